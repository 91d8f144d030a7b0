/- Stations that meet and wait: who sends, and in which slots; each at most once, later ones later, what more picks change. Mathematics alone. No statement is proved here. -/
import Derived.Test.YteggajhpjdidcaaKit
namespace Go.Proofs.Yteggajhpjdidcaa.RetryMath
set_option linter.unusedVariables false

def room (m : Nat) : Nat := 2 ^ min m 10
/-- Who sends in slot s, of n. -/
def now (n : Nat) (at' : Nat → Nat) (s : Nat) : List Nat := (List.range n).filter fun i => at' i == s
def put (f : Nat → Nat) (i x : Nat) : Nat → Nat := fun j => if j = i then x else f j
/-- All of a list meet in slot s, and pick anew. -/
def hits (s : Nat) : List Nat → List Nat → (Nat → Nat) → (Nat → Nat) → (Nat → Nat) × (Nat → Nat)
  | i :: is, x :: xs, a, m => hits s is xs (put a i (s + 1 + x % room (m i + 1))) (put m i (m i + 1))
  | _, _, a, m => (a, m)
/-- What is still to come: k slots, the next is s, c have sent. -/
def run (n : Nat) : Nat → Nat → Nat → (Nat → Nat) → (Nat → Nat) → List Nat → List (Nat × Nat)
  | 0, _, _, _, _, _ => []
  | k + 1, s, c, a, m, l =>
    if c = n then [] else
    match now n a s with
    | [i] => (i, s) :: run n k (s + 1) (c + 1) a m l
    | w => if l.length < w.length then [] else run n k (s + 1) c (hits s w l a m).1 (hits s w l a m).2 (l.drop w.length)
def all (n : Nat) (l : List Nat) : List (Nat × Nat) := run n 1001 0 0 (fun _ => 0) (fun _ => 0) l

variable {n : Nat} {a m : Nat → Nat} {s : Nat}
theorem room_pos (k : Nat) : 0 < room k := Nat.pos_of_ne_zero (by unfold room; exact Nat.ne_of_gt (Nat.pow_pos (by decide)))
theorem room_le (k : Nat) : room k ≤ 1024 := by
  unfold room
  exact Nat.le_trans (Nat.pow_le_pow_right (by decide) (Nat.min_le_right _ _)) (by decide)
theorem room_next {k : Nat} (h : k < 10) : room (k + 1) = 2 * room k := by
  unfold room
  rw [Nat.min_eq_left (by omega), Nat.min_eq_left (by omega), Nat.pow_succ, Nat.mul_comm]
theorem room_top {k : Nat} (h : 10 ≤ k) : room k = 1024 := by unfold room; rw [Nat.min_eq_right h]
theorem now_mem {i : Nat} : i ∈ now n a s ↔ i < n ∧ a i = s := by simp [now]
theorem now_succ (i : Nat) : now (i + 1) a s = now i a s ++ if a i = s then [i] else [] := by
  unfold now
  rw [List.range_succ, List.filter_append]
  by_cases h : a i = s <;> simp [h]
theorem now_len : (now n a s).length ≤ n := by
  unfold now
  exact Nat.le_trans (List.length_filter_le _ _) (by simp)
theorem put_same (f : Nat → Nat) (i x : Nat) : put f i x i = x := by simp [put]
theorem put_other (f : Nat → Nat) {i j : Nat} (x : Nat) (h : j ≠ i) : put f i x j = f j := by simp [put, h]
/-- Who doesn't meet keeps its slot. -/
theorem hits_other {i : Nat} : ∀ (w l : List Nat) (a m : Nat → Nat), i ∉ w → (hits s w l a m).1 i = a i
  | [], _, _, _, _ => by simp [hits]
  | j :: w, [], _, _, _ => by simp [hits]
  | j :: w, x :: l, a, m, h => by
    rw [hits, hits_other w l _ _ (fun e => h (List.mem_cons_of_mem _ e)), put_other _ _ (fun e => h (by rw [e]; exact List.mem_cons_self ..))]
/-- Only as many picks count as there are who meet. -/
theorem hits_more (l' : List Nat) : ∀ (w l : List Nat) (a m : Nat → Nat), w.length ≤ l.length → hits s w (l ++ l') a m = hits s w l a m
  | [], _, _, _, _ => by simp [hits]
  | j :: w, [], _, _, h => by simp at h
  | j :: w, x :: l, a, m, h => by
    rw [List.cons_append, hits, hits, hits_more l' w l _ _ (by simpa using h)]
theorem run_stop (k s : Nat) (a m : Nat → Nat) (l : List Nat) : run n k s n a m l = [] := by
  cases k with
  | zero => rfl
  | succ k => rw [run, if_pos rfl]
theorem run_one {k c i : Nat} {l : List Nat} (hc : c ≠ n) (h : now n a s = [i]) : run n (k + 1) s c a m l = (i, s) :: run n k (s + 1) (c + 1) a m l := by
  rw [run, if_neg hc, h]
theorem run_out {k c : Nat} {l : List Nat} (h : (now n a s).length ≠ 1) (hl : l.length < (now n a s).length) : run n (k + 1) s c a m l = [] := by
  rw [run]
  split
  · rfl
  · split
    · next i e => rw [e] at h; simp at h
    · rw [if_pos hl]
theorem run_hit {k c : Nat} {l : List Nat} (hc : c ≠ n) (h : (now n a s).length ≠ 1) (hl : (now n a s).length ≤ l.length) :
    run n (k + 1) s c a m l = run n k (s + 1) c (hits s (now n a s) l a m).1 (hits s (now n a s) l a m).2 (l.drop (now n a s).length) := by
  rw [run, if_neg hc]
  split
  · next i e => rw [e] at h; simp at h
  · rw [if_neg (by omega)]
/-- A case distinction as the simulation makes it. -/
theorem way (n c : Nat) (a : Nat → Nat) (s : Nat) (l : List Nat) : c = n ∨ c ≠ n ∧ ((∃ i, now n a s = [i]) ∨ (now n a s).length ≠ 1 ∧ (l.length < (now n a s).length ∨ (now n a s).length ≤ l.length)) := by
  by_cases hc : c = n
  · exact .inl hc
  · refine .inr ⟨hc, ?_⟩
    by_cases h1 : (now n a s).length = 1
    · exact .inl (List.length_eq_one_iff.1 h1)
    · exact .inr ⟨h1, by omega⟩
/-- Whose slot is past doesn't send. -/
theorem run_past {i : Nat} : ∀ (k s c : Nat) (a m : Nat → Nat) (l : List Nat), a i < s → i ∉ (run n k s c a m l).map Prod.fst
  | 0, _, _, _, _, _, _ => by simp [run]
  | k + 1, s, c, a, m, l, hi => by
    rcases way n c a s l with rfl | ⟨hc, ⟨j, hj⟩ | ⟨h1, hl | hl⟩⟩
    · rw [run_stop]; simp
    · rw [run_one hc hj, List.map_cons, List.mem_cons]
      rintro (e | e)
      · have : i ∈ now n a s := by rw [hj, e]; exact List.mem_singleton.2 rfl
        have := (now_mem.1 this).2
        omega
      · exact run_past k (s + 1) (c + 1) a m l (by omega) e
    · rw [run_out h1 hl]; simp
    · rw [run_hit hc h1 hl]
      refine run_past k (s + 1) c _ _ _ ?_
      rw [hits_other _ _ _ _ (fun e => by have := (now_mem.1 e).2; omega)]
      omega
/-- Each sends once, is one of n, later ones later. -/
structure Fine (n k s : Nat) (L : List (Nat × Nat)) : Prop where
  once : (L.map Prod.fst).Nodup
  who : ∀ x ∈ L, x.1 < n ∧ s ≤ x.2 ∧ x.2 < s + k
  later : (L.map Prod.snd).Pairwise (· < ·)
theorem Fine.nil (n k s : Nat) : Fine n k s [] := ⟨List.nodup_nil, fun x h => absurd h (by simp), List.Pairwise.nil⟩
theorem run_fine : ∀ (k s c : Nat) (a m : Nat → Nat) (l : List Nat), Fine n k s (run n k s c a m l)
  | 0, _, _, _, _, _ => Fine.nil _ _ _
  | k + 1, s, c, a, m, l => by
    have more : ∀ {L}, Fine n k (s + 1) L → Fine n (k + 1) s L := fun h => ⟨h.once, fun x hx => by have := h.who x hx; omega, h.later⟩
    rcases way n c a s l with rfl | ⟨hc, ⟨j, hj⟩ | ⟨h1, hl | hl⟩⟩
    · rw [run_stop]; exact Fine.nil _ _ _
    · rw [run_one hc hj]
      have hm : j ∈ now n a s := by rw [hj]; exact List.mem_singleton.2 rfl
      obtain ⟨hjn, hjs⟩ := now_mem.1 hm
      have h := run_fine k (s + 1) (c + 1) a m l
      refine ⟨?_, fun x hx => ?_, ?_⟩
      · rw [List.map_cons, List.nodup_cons]
        exact ⟨run_past k (s + 1) (c + 1) a m l (by rw [hjs]; exact Nat.lt_succ_self s), h.once⟩
      · rcases List.mem_cons.1 hx with rfl | hx
        · exact ⟨hjn, Nat.le_refl _, by simp⟩
        · have := h.who x hx; omega
      · rw [List.map_cons, List.pairwise_cons]
        refine ⟨fun t ht => ?_, h.later⟩
        obtain ⟨x, hx, rfl⟩ := List.mem_map.1 ht
        have := (h.who x hx).2.1
        show s < x.2
        omega
    · rw [run_out h1 hl]; exact Fine.nil _ _ _
    · rw [run_hit hc h1 hl]
      exact more (run_fine k (s + 1) c _ _ _)
theorem run_len : ∀ (k s c : Nat) (a m : Nat → Nat) (l : List Nat), c ≤ n → (run n k s c a m l).length ≤ n - c
  | 0, _, _, _, _, _, _ => by simp [run]
  | k + 1, s, c, a, m, l, h => by
    rcases way n c a s l with rfl | ⟨hc, ⟨j, hj⟩ | ⟨h1, hl | hl⟩⟩
    · rw [run_stop]; simp
    · rw [run_one hc hj, List.length_cons]
      have := run_len k (s + 1) (c + 1) a m l (by omega)
      omega
    · rw [run_out h1 hl]; simp
    · rw [run_hit hc h1 hl]; exact run_len k (s + 1) c _ _ _ h
/-- More picks change nothing of what was. -/
theorem run_more (l' : List Nat) : ∀ (k s c : Nat) (a m : Nat → Nat) (l : List Nat), run n k s c a m l <+: run n k s c a m (l ++ l')
  | 0, _, _, _, _, _ => ⟨[], rfl⟩
  | k + 1, s, c, a, m, l => by
    rcases way n c a s l with rfl | ⟨hc, ⟨j, hj⟩ | ⟨h1, hl | hl⟩⟩
    · rw [run_stop]; exact List.nil_prefix
    · rw [run_one hc hj, run_one hc hj]
      obtain ⟨t, ht⟩ := run_more l' k (s + 1) (c + 1) a m l
      exact ⟨t, by rw [List.cons_append, ht]⟩
    · rw [run_out h1 hl]; exact List.nil_prefix
    · rw [run_hit hc h1 hl, run_hit hc h1 (by rw [List.length_append]; omega), hits_more l' _ _ _ _ hl, List.drop_append_of_le_length hl]
      exact run_more l' k (s + 1) c _ _ _
theorem all_fine (l : List Nat) : Fine n 1001 0 (all n l) := run_fine _ _ _ _ _ _
theorem all_len (l : List Nat) : (all n l).length ≤ n := by have := run_len (n := n) 1001 0 0 (fun _ => 0) (fun _ => 0) l (Nat.zero_le _); exact this
theorem all_take (l : List Nat) (k : Nat) : all n (l.take k) <+: all n l := by
  have := run_more (n := n) (l.drop k) 1001 0 0 (fun _ => 0) (fun _ => 0) (l.take k)
  rw [List.take_append_drop] at this
  exact this
theorem all_one (l : List Nat) : all 1 l = [(0, 0)] := by
  unfold all
  rw [run_one (by decide) (i := 0) (by simp [now]), run_stop]
theorem len_le : ∀ (n : Nat) (L : List Nat), L.Nodup → (∀ x ∈ L, x < n) → L.length ≤ n
  | 0, L, _, h => by
    cases L with
    | nil => simp
    | cons x L => exact absurd (h x (List.mem_cons_self ..)) (by omega)
  | n + 1, L, hd, h => by
    have h1 := len_le n (L.erase n) (hd.erase n) (fun x hx => by
      have h2 := h x (List.mem_of_mem_erase hx)
      have h3 : x ≠ n := fun e => by rw [e] at hx; exact (List.Nodup.not_mem_erase hd) hx
      omega)
    have := List.length_erase (a := n) (l := L)
    split at this <;> omega
/-- Who are n, each one other and less than n, are all of them. -/
theorem perm_range : ∀ (n : Nat) (L : List Nat), L.Nodup → (∀ x ∈ L, x < n) → L.length = n → L.Perm (List.range n)
  | 0, L, _, _, h => by rw [List.length_eq_zero_iff.1 h]; exact List.Perm.refl _
  | n + 1, L, hd, h, hn => by
    have hm : n ∈ L := Classical.byContradiction fun hno => by
      have := len_le n L hd (fun x hx => by
        have h2 := h x hx
        have h3 : x ≠ n := fun e => hno (by rw [← e]; exact hx)
        omega)
      omega
    have h1 := perm_range n (L.erase n) (hd.erase n) (fun x hx => by
      have h2 := h x (List.mem_of_mem_erase hx)
      have h3 : x ≠ n := fun e => by rw [e] at hx; exact (List.Nodup.not_mem_erase hd) hx
      omega) (by rw [List.length_erase, if_pos hm]; omega)
    rw [List.range_succ]
    exact (List.perm_cons_erase hm).trans ((h1.cons n).trans (List.perm_append_comm (l₁ := [n]) (l₂ := List.range n)))
theorem all_perm (l : List Nat) (h : (all n l).length = n) : ((all n l).map Prod.fst).Perm (List.range n) :=
  perm_range n _ (all_fine l).once (fun x hx => by obtain ⟨y, hy, rfl⟩ := List.mem_map.1 hx; exact ((all_fine l).who y hy).1) (by rw [List.length_map, h])
/-- Two who meet once, with two picks. -/
theorem all_two (x y : Nat) : all 2 [x, y] = if x % 2 = y % 2 then [] else [(x % 2, 1), (y % 2, 2)] := by
  have h1 : all 2 [x, y] = run 2 1000 1 0 (put (put (fun _ => 0) 0 (1 + x % 2)) 1 (1 + y % 2)) (put (put (fun _ => 0) 0 1) 1 1) [] := by
    unfold all
    rw [run_hit (by decide) (by decide) (by simp [now, List.range_succ])]
    simp [now, List.range_succ, hits, room, put]
  rw [h1]
  rcases Nat.mod_two_eq_zero_or_one x with hx | hx <;> rcases Nat.mod_two_eq_zero_or_one y with hy | hy <;> rw [hx, hy]
  · rw [run_out] <;> simp [now, List.range_succ, put]
  · rw [run_one (i := 0) (by decide) (by simp [now, List.range_succ, put]), run_one (i := 1) (by decide) (by simp [now, List.range_succ, put]), run_stop]; simp
  · rw [run_one (i := 1) (by decide) (by simp [now, List.range_succ, put]), run_one (i := 0) (by decide) (by simp [now, List.range_succ, put]), run_stop]; simp
  · rw [run_hit (by decide) (by simp [now, List.range_succ, put]) (by simp [now, List.range_succ, put]), run_out] <;> simp [now, List.range_succ, put, hits]
end Go.Proofs.Yteggajhpjdidcaa.RetryMath
