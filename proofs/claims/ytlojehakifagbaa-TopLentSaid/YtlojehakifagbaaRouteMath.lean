/- Routes: a table in order, by prefix; what is set, dropped, found. No statement is proved here. -/
import Derived.Test.YtlojehakifagbaaCidrMath
namespace Go.Proofs.Ytlojehakifagbaa.RouteMath
open Go.Proofs.Ytlojehakifagbaa.CidrMath
set_option linter.unusedVariables false

structure Rt where
  adr : Int
  len : Int
  hop : Int
def key (r : Rt) : Pfx := ⟨r.adr, r.len⟩
def Lt (x y : Pfx) : Prop := x.adr < y.adr ∨ x.adr = y.adr ∧ x.len < y.len
instance (x y : Pfx) : Decidable (Lt x y) := by unfold Lt; infer_instance
instance (x y : Pfx) : Decidable (x = y) := by
  obtain ⟨a, b⟩ := x
  obtain ⟨c, d⟩ := y
  rw [Pfx.mk.injEq]
  infer_instance
theorem lt_irrefl (x : Pfx) : ¬ Lt x x := by unfold Lt; omega
theorem lt_trans {x y z : Pfx} (h : Lt x y) (g : Lt y z) : Lt x z := by unfold Lt at *; omega
theorem lt_three (x y : Pfx) : Lt x y ∨ x = y ∨ Lt y x := by
  obtain ⟨a, b⟩ := x
  obtain ⟨c, d⟩ := y
  unfold Lt
  simp only [Pfx.mk.injEq]
  omega
/-- In order, no prefix twice. -/
def Sorted (l : List Rt) : Prop := l.Pairwise fun x y => Lt (key x) (key y)
/-- The place of a prefix, or where it would stand. -/
def pos (l : List Rt) (p : Pfx) : Nat := (l.takeWhile fun r => decide (Lt (key r) p)).length
def Is (l : List Rt) (p : Pfx) : Prop := ∃ r, l[pos l p]? = some r ∧ key r = p
theorem pos_le (l : List Rt) (p : Pfx) : pos l p ≤ l.length := by
  unfold pos
  exact (List.takeWhile_sublist _).length_le
theorem tw_drop (q : Rt → Bool) : ∀ l : List Rt, l.drop (l.takeWhile q).length = l.dropWhile q
  | [] => rfl
  | x :: l => by
    by_cases h : q x = true
    · rw [List.takeWhile_cons_of_pos h, List.dropWhile_cons_of_pos h]
      exact tw_drop q l
    · rw [List.takeWhile_cons_of_neg h, List.dropWhile_cons_of_neg h]
      rfl
theorem tw_mem (q : Rt → Bool) : ∀ (l : List Rt) (x : Rt), x ∈ l.takeWhile q → q x = true
  | [], x, h => by simp at h
  | y :: l, x, h => by
    by_cases hq : q y = true
    · rw [List.takeWhile_cons_of_pos hq] at h
      rcases List.mem_cons.1 h with rfl | h
      · exact hq
      · exact tw_mem q l x h
    · rw [List.takeWhile_cons_of_neg hq] at h; simp at h
theorem take_pos (l : List Rt) (p : Pfx) : l.take (pos l p) = l.takeWhile fun r => decide (Lt (key r) p) := (List.prefix_iff_eq_take.1 (List.takeWhile_prefix _)).symm
theorem drop_pos (l : List Rt) (p : Pfx) : l.drop (pos l p) = l.dropWhile fun r => decide (Lt (key r) p) := tw_drop _ l
theorem before_pos {l : List Rt} {p : Pfx} {r : Rt} (h : r ∈ l.take (pos l p)) : Lt (key r) p := by
  rw [take_pos] at h
  have := tw_mem _ _ _ h
  simpa using this
theorem at_pos {l : List Rt} {p : Pfx} {r : Rt} (h : l[pos l p]? = some r) : ¬ Lt (key r) p := by
  have h1 : (l.drop (pos l p))[0]? = some r := by rw [List.getElem?_drop]; exact h
  rw [drop_pos] at h1
  have h2 : (l.dropWhile fun r => decide (Lt (key r) p)).head? = some r := by rw [List.head?_eq_getElem?]; exact h1
  have := List.head?_dropWhile_not (fun r => decide (Lt (key r) p)) l
  rw [h2] at this
  simpa using this
theorem behind_pos {l : List Rt} (hs : Sorted l) {p : Pfx} {r : Rt} (h : r ∈ l.drop (pos l p)) : ¬ Lt (key r) p := by
  obtain ⟨j, hj, e⟩ := List.getElem_of_mem h
  have hj' : pos l p + j < l.length := by rw [List.length_drop] at hj; omega
  rw [List.getElem_drop] at e
  have hp : pos l p < l.length := by omega
  have h0 := at_pos (l := l) (p := p) (List.getElem?_eq_getElem hp)
  rcases Nat.eq_zero_or_pos j with h1 | h1
  · subst h1
    rw [← e]; exact h0
  · have h2 := List.pairwise_iff_getElem.1 hs (pos l p) (pos l p + j) hp hj' (by omega)
    rw [e] at h2
    exact fun h3 => h0 (lt_trans h2 h3)
theorem is_iff {l : List Rt} (hs : Sorted l) (p : Pfx) : Is l p ↔ ∃ r ∈ l, key r = p := by
  constructor
  · rintro ⟨r, h, e⟩
    exact ⟨r, List.mem_of_getElem? h, e⟩
  · rintro ⟨r, hr, e⟩
    have hd : r ∈ l.drop (pos l p) := by
      have h1 : r ∈ l.take (pos l p) ++ l.drop (pos l p) := by rw [List.take_append_drop]; exact hr
      rcases List.mem_append.1 h1 with h | h
      · exact absurd (before_pos h) (by rw [e]; exact lt_irrefl p)
      · exact h
    obtain ⟨j, hj, e2⟩ := List.getElem_of_mem hd
    rw [List.getElem_drop] at e2
    have hj' : pos l p + j < l.length := by rw [List.length_drop] at hj; omega
    have hp : pos l p < l.length := by omega
    have h0 := at_pos (l := l) (p := p) (List.getElem?_eq_getElem hp)
    rcases Nat.eq_zero_or_pos j with h1 | h1
    · subst h1
      exact ⟨r, by rw [List.getElem?_eq_getElem hp]; congr 1, e⟩
    · have h2 := List.pairwise_iff_getElem.1 hs (pos l p) (pos l p + j) hp hj' (by omega)
      rw [e2, e] at h2
      exact absurd h2 h0
/-- A route set. -/
def setR (l : List Rt) (r : Rt) (is : Bool) : List Rt := l.take (pos l (key r)) ++ r :: l.drop (pos l (key r) + if is = true then 1 else 0)
/-- A prefix dropped. -/
def dropR (l : List Rt) (p : Pfx) : List Rt := l.take (pos l p) ++ l.drop (pos l p + 1)
theorem parts_eq (l : List Rt) (k : Nat) (r : Rt) (h : l[k]? = some r) : l = l.take k ++ r :: l.drop (k + 1) := by
  have hk : k < l.length := by
    rcases Nat.lt_or_ge k l.length with h1 | h1
    · exact h1
    · rw [List.getElem?_eq_none h1] at h; cases h
  rw [List.getElem?_eq_getElem hk] at h
  conv => lhs; rw [← List.take_append_drop k l, List.drop_eq_getElem_cons hk, Option.some.inj h]
theorem rest_new {l : List Rt} (hs : Sorted l) {p : Pfx} (hn : ¬ Is l p) {x : Rt} (hx : x ∈ l.drop (pos l p)) : Lt p (key x) := by
  rcases lt_three p (key x) with h | h | h
  · exact h
  · exact absurd ((is_iff hs p).2 ⟨x, List.mem_of_mem_drop hx, h.symm⟩) hn
  · exact absurd h (behind_pos hs hx)
theorem rest_old {l : List Rt} (hs : Sorted l) {p : Pfx} (h : Is l p) {x : Rt} (hx : x ∈ l.drop (pos l p + 1)) : Lt p (key x) := by
  obtain ⟨r, hr, e⟩ := h
  obtain ⟨j, hj, e2⟩ := List.getElem_of_mem hx
  rw [List.getElem_drop] at e2
  have hj' : pos l p + 1 + j < l.length := by rw [List.length_drop] at hj; omega
  have h2 := List.pairwise_iff_getElem.1 hs (pos l p) (pos l p + 1 + j) (by omega) hj' (by omega)
  rw [e2] at h2
  rw [List.getElem?_eq_getElem (by omega)] at hr
  rw [Option.some.inj hr, e] at h2
  exact h2
theorem set_sorted {l : List Rt} (hs : Sorted l) (r : Rt) (is : Bool) (hi : is = true ↔ Is l (key r)) : Sorted (setR l r is) := by
  unfold setR Sorted
  rw [List.pairwise_append]
  have hrest : ∀ x ∈ l.drop (pos l (key r) + if is = true then 1 else 0), Lt (key r) (key x) := fun x hx => by
    cases is with
    | true => rw [if_pos rfl] at hx; exact rest_old hs (hi.1 rfl) hx
    | false =>
      rw [if_neg (by simp), Nat.add_zero] at hx
      exact rest_new hs (fun h => by have := hi.2 h; simp at this) hx
  refine ⟨List.Pairwise.sublist (List.take_sublist _ _) hs, List.pairwise_cons.2 ⟨hrest, List.Pairwise.sublist (List.drop_sublist _ _) hs⟩, fun x hx y hy => ?_⟩
  have h1 := before_pos hx
  rcases List.mem_cons.1 hy with rfl | hy
  · exact h1
  · exact lt_trans h1 (hrest y hy)
theorem set_mem {l : List Rt} (hs : Sorted l) (r : Rt) (is : Bool) (hi : is = true ↔ Is l (key r)) (x : Rt) : x ∈ setR l r is ↔ x = r ∨ (x ∈ l ∧ key x ≠ key r) := by
  unfold setR
  rw [List.mem_append, List.mem_cons]
  cases is with
  | true =>
    rw [if_pos rfl]
    obtain ⟨s, hr, e⟩ := hi.1 rfl
    have hl := parts_eq l _ s hr
    constructor
    · rintro (h | h | h)
      · exact .inr ⟨List.mem_of_mem_take h, fun e2 => lt_irrefl _ (e2 ▸ before_pos h)⟩
      · exact .inl h
      · exact .inr ⟨List.mem_of_mem_drop h, fun e2 => lt_irrefl (key r) (by have := rest_old hs (hi.1 rfl) h; rw [e2] at this; exact this)⟩
    · rintro (h | ⟨h, e2⟩)
      · exact .inr (.inl h)
      · rw [hl, List.mem_append, List.mem_cons] at h
        rcases h with h | h | h
        · exact .inl h
        · rw [h] at e2; exact absurd e e2
        · exact .inr (.inr h)
  | false =>
    have hn : ¬ Is l (key r) := fun h => by have := hi.2 h; simp at this
    rw [if_neg (by simp), Nat.add_zero]
    constructor
    · rintro (h | h | h)
      · exact .inr ⟨List.mem_of_mem_take h, fun e2 => lt_irrefl _ (e2 ▸ before_pos h)⟩
      · exact .inl h
      · exact .inr ⟨List.mem_of_mem_drop h, fun e2 => lt_irrefl (key r) (by have := rest_new hs hn h; rw [e2] at this; exact this)⟩
    · rintro (h | ⟨h, e2⟩)
      · exact .inr (.inl h)
      · have h1 : x ∈ l.take (pos l (key r)) ++ l.drop (pos l (key r)) := by rw [List.take_append_drop]; exact h
        rcases List.mem_append.1 h1 with h | h
        · exact .inl h
        · exact .inr (.inr h)
theorem set_len (l : List Rt) (r : Rt) (is : Bool) (hi : is = true ↔ Is l (key r)) : (setR l r is).length = l.length + (if is = true then 0 else 1) := by
  unfold setR
  have hp := pos_le l (key r)
  rw [List.length_append, List.length_cons, List.length_take, List.length_drop]
  cases is with
  | true =>
    obtain ⟨s, hr, _⟩ := hi.1 rfl
    have : pos l (key r) < l.length := by
      rcases Nat.lt_or_ge (pos l (key r)) l.length with h1 | h1
      · exact h1
      · rw [List.getElem?_eq_none h1] at hr; cases hr
    rw [if_pos rfl, if_pos rfl]; omega
  | false => rw [if_neg (by simp), if_neg (by simp)]; omega
theorem drop_sorted {l : List Rt} (hs : Sorted l) (p : Pfx) : Sorted (dropR l p) := by
  unfold dropR
  have h : (l.take (pos l p) ++ l.drop (pos l p + 1)).Sublist l := by
    conv => rhs; rw [← List.take_append_drop (pos l p) l]
    exact List.Sublist.append_left (List.drop_sublist_drop_left l (Nat.le_succ _)) _
  exact List.Pairwise.sublist h hs
theorem drop_mem {l : List Rt} (hs : Sorted l) {p : Pfx} (h : Is l p) (x : Rt) : x ∈ dropR l p ↔ x ∈ l ∧ key x ≠ p := by
  unfold dropR
  obtain ⟨s, hr, e⟩ := h
  have hl := parts_eq l _ s hr
  rw [List.mem_append]
  constructor
  · rintro (h | h)
    · exact ⟨List.mem_of_mem_take h, fun e2 => lt_irrefl _ (e2 ▸ before_pos h)⟩
    · exact ⟨List.mem_of_mem_drop h, fun e2 => lt_irrefl p (by have := rest_old hs ⟨s, hr, e⟩ h; rw [e2] at this; exact this)⟩
  · rintro ⟨h, e2⟩
    rw [hl, List.mem_append, List.mem_cons] at h
    rcases h with h | h | h
    · exact .inl h
    · rw [h] at e2; exact absurd e e2
    · exact .inr h
/-- What is sorted and has the same routes is the same. -/
theorem sorted_ext {l m : List Rt} (hl : Sorted l) (hm : Sorted m) (h : ∀ x, x ∈ l ↔ x ∈ m) : l = m := by
  have ne : ∀ a b : Rt, Lt (key a) (key b) → a ≠ b := fun a b h e => by rw [e] at h; exact lt_irrefl _ h
  have hnl : l.Nodup := List.Pairwise.imp (fun {a b} h => ne a b h) hl
  have hnm : m.Nodup := List.Pairwise.imp (fun {a b} h => ne a b h) hm
  have hp : l.Perm m := (List.perm_ext_iff_of_nodup hnl hnm).2 h
  exact hp.eq_of_pairwise (fun a b _ _ h1 h2 => absurd (lt_trans h1 h2) (lt_irrefl _)) hl hm
end Go.Proofs.Ytlojehakifagbaa.RouteMath
