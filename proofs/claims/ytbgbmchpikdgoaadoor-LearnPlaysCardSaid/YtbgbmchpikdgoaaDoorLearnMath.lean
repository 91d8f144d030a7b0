/- Package learn: a table of addresses and ports by who was heard last, plain mathematics. No statement is proved here. -/
import Derived.Test.YtbgbmchpikdgoaaDoorKit
namespace Go.Proofs.YtbgbmchpikdgoaaDoor.Learn
set_option linter.unusedVariables false

/-- An address and its port. -/
abbrev E := Int × Int
/-- The place of an address, from i on. -/
def find (l : List E) (a : Int) : Int :=
  match l with
  | [] => -1
  | e :: l => if e.1 = a then e.2 else find l a
/-- All entries but those of an address. -/
def but (l : List E) (a : Int) : List E := l.filter fun e => !(e.1 == a)
/-- All entries but those at a port. -/
def down (l : List E) (p : Int) : List E := l.filter fun e => !(e.2 == p)
def cut8 (l : List E) : List E := if 8 < l.length then l.drop 1 else l
def hear (l : List E) (a p : Int) : List E := cut8 (but l a ++ [(a, p)])
def isA (a : Int) : Prop := 0 ≤ a ∧ a ≤ 65535
def isP (p : Int) : Prop := 0 ≤ p ∧ p ≤ 3
instance (a : Int) : Decidable (isA a) := by unfold isA; exact inferInstance
instance (p : Int) : Decidable (isP p) := by unfold isP; exact inferInstance
def others (p : Int) : List Int := [0, 1, 2, 3].filter fun q => !(q == p)
/-- The ports to which a frame is sent. -/
def out (l : List E) (to port : Int) : List Int := if find l to = port then [] else if find l to = -1 then others port else [find l to]
/-- A table. -/
structure Ok (l : List E) : Prop where
  nd : (l.map Prod.fst).Nodup
  len : l.length ≤ 8
  rng : ∀ e ∈ l, isA e.1 ∧ isP e.2
theorem Ok.nil : Ok [] := ⟨by simp, by simp, by simp⟩
theorem sub_ok {l m : List E} (h : Ok l) (hs : m.Sublist l) : Ok m :=
  ⟨(hs.map Prod.fst).nodup h.nd, Nat.le_trans hs.length_le h.len, fun e he => h.rng e (hs.subset he)⟩
theorem but_ok {l : List E} (h : Ok l) (a : Int) : Ok (but l a) := sub_ok h List.filter_sublist
theorem down_ok {l : List E} (h : Ok l) (p : Int) : Ok (down l p) := sub_ok h List.filter_sublist
theorem but_no (l : List E) (a : Int) : ∀ e ∈ but l a, e.1 ≠ a := fun e he => by
  have := (List.mem_filter.1 he).2
  simpa using this
theorem cut8_sub (l : List E) : (cut8 l).Sublist l := by
  unfold cut8
  split
  · exact List.drop_sublist _ _
  · exact List.Sublist.refl _
theorem cut8_len {l : List E} (h : l.length ≤ 9) : (cut8 l).length ≤ 8 := by
  unfold cut8
  split
  · rw [List.length_drop]; omega
  · omega
theorem app_nd {l : List E} (h : (l.map Prod.fst).Nodup) (a p : Int) : ((but l a ++ [(a, p)]).map Prod.fst).Nodup := by
  rw [List.map_append, List.nodup_append]
  refine ⟨((List.filter_sublist (p := fun e : E => !(e.1 == a)) (l := l)).map Prod.fst).nodup h, by simp, fun x hx y hy => ?_⟩
  obtain ⟨e, he, rfl⟩ := List.mem_map.1 hx
  have : y = a := by simpa using hy
  rw [this]
  exact but_no l a e he
theorem app_len {l : List E} (h : Ok l) (a p : Int) : (but l a ++ [(a, p)]).length ≤ 9 := by
  rw [List.length_append]
  have := (but_ok h a).len
  simp only [List.length_cons, List.length_nil]
  omega
theorem hear_ok {l : List E} (h : Ok l) {a p : Int} (ha : isA a) (hp : isP p) : Ok (hear l a p) := by
  have hs := cut8_sub (but l a ++ [(a, p)])
  refine ⟨(hs.map Prod.fst).nodup (app_nd h.nd a p), cut8_len (app_len h a p), fun e he => ?_⟩
  rcases List.mem_append.1 (hs.subset he) with h1 | h1
  · exact (but_ok h a).rng e h1
  · have : e = (a, p) := by simpa using h1
    rw [this]; exact ⟨ha, hp⟩

/-- What find says. -/
theorem find_none {l : List E} {a : Int} (h : ∀ e ∈ l, e.1 ≠ a) : find l a = -1 := by
  induction l with
  | nil => rfl
  | cons e l ih => rw [find, if_neg (h e (by simp)), ih (fun x hx => h x (by simp [hx]))]
theorem find_mem {l : List E} (h : (l.map Prod.fst).Nodup) {e : E} (he : e ∈ l) : find l e.1 = e.2 := by
  induction l with
  | nil => cases he
  | cons x l ih =>
    rw [List.map_cons, List.nodup_cons] at h
    rcases List.mem_cons.1 he with rfl | h1
    · rw [find, if_pos rfl]
    · rw [find, if_neg (fun e1 => h.1 (by rw [e1]; exact List.mem_map_of_mem h1)), ih h.2 h1]
theorem find_cases (l : List E) (a : Int) : (find l a = -1 ∧ ∀ e ∈ l, e.1 ≠ a) ∨ (a, find l a) ∈ l := by
  induction l with
  | nil => exact .inl ⟨rfl, by simp⟩
  | cons e l ih =>
    rw [find]
    by_cases h : e.1 = a
    · rw [if_pos h]
      right
      rw [← h]
      exact List.mem_cons_self
    · rw [if_neg h]
      rcases ih with ⟨h1, h2⟩ | h1
      · exact .inl ⟨h1, fun x hx => by
          rcases List.mem_cons.1 hx with rfl | hx
          · exact h
          · exact h2 x hx⟩
      · exact .inr (List.mem_cons_of_mem _ h1)
theorem find_rng {l : List E} (h : Ok l) (a : Int) : find l a = -1 ∨ (isA a ∧ isP (find l a)) := by
  rcases find_cases l a with ⟨h1, _⟩ | h1
  · exact .inl h1
  · exact .inr (h.rng _ h1)
theorem find_pos {l : List E} (h : Ok l) {a : Int} (hp : find l a ≠ -1) : (a, find l a) ∈ l := by
  rcases find_cases l a with ⟨h1, _⟩ | h1
  · exact absurd h1 hp
  · exact h1
theorem find_sub {l m : List E} (h : Ok l) (hs : m.Sublist l) (a : Int) : find m a = -1 ∨ find m a = find l a := by
  rcases find_cases m a with ⟨h1, _⟩ | h1
  · exact .inl h1
  · exact .inr (find_mem h.nd (hs.subset h1)).symm
theorem find_app {l : List E} {a b p : Int} (h : a ≠ b) : find (l ++ [(a, p)]) b = find l b := by
  induction l with
  | nil => simp [find, h]
  | cons e l ih =>
    rw [List.cons_append, find, find, ih]
theorem find_but {l : List E} {a b : Int} (h : a ≠ b) : find (but l a) b = find l b := by
  induction l with
  | nil => rfl
  | cons e l ih =>
    by_cases he : e.1 = a
    · have : but (e :: l) a = but l a := by simp [but, he]
      rw [this, ih, find, if_neg (by rw [he]; exact h)]
    · have : but (e :: l) a = e :: but l a := by simp [but, he]
      rw [this, find, find, ih]
theorem last_mem_cut {l : List E} {x : E} (h : 0 < l.length ∨ True) : x ∈ cut8 (l ++ [x]) := by
  unfold cut8
  split
  · rename_i h1
    cases l with
    | nil => simp at h1
    | cons y l => simp
  · simp
theorem find_self {l : List E} (h : Ok l) {a p : Int} (ha : isA a) (hp : isP p) : find (hear l a p) a = p :=
  find_mem (hear_ok h ha hp).nd (e := (a, p)) (last_mem_cut (.inr trivial))
/-- Another address is where it was, or is forgotten. -/
theorem find_other {l : List E} (h : Ok l) {a b p : Int} (hne : a ≠ b) : find (hear l a p) b = -1 ∨ find (hear l a p) b = find l b := by
  rcases find_cases (hear l a p) b with ⟨h1, _⟩ | h1
  · exact .inl h1
  · right
    rcases List.mem_append.1 ((cut8_sub _).subset h1) with h2 | h2
    · exact (find_mem h.nd ((List.filter_sublist).subset h2)).symm
    · have : (b, find (hear l a p) b) = (a, p) := by simpa using h2
      injection this with e1
      exact absurd e1.symm hne
theorem mem_down {l : List E} {p : Int} {e : E} : e ∈ down l p ↔ e ∈ l ∧ e.2 ≠ p := by
  unfold down
  rw [List.mem_filter]
  simp
theorem find_down_gone {l : List E} (h : Ok l) {a p : Int} (ha : find l a = p) : find (down l p) a = -1 := by
  rcases find_cases (down l p) a with ⟨h1, _⟩ | h1
  · exact h1
  · have h2 := mem_down.1 h1
    have h3 := find_mem h.nd h2.1
    exact absurd (h3.symm.trans ha) h2.2
theorem find_down_kept {l : List E} (h : Ok l) {a p : Int} (ha : find l a ≠ p) : find (down l p) a = find l a := by
  rcases find_cases l a with ⟨h1, h2⟩ | h1
  · rw [h1]
    exact find_none (fun e he => h2 e (mem_down.1 he).1)
  · exact find_mem (down_ok h p).nd (mem_down.2 ⟨h1, ha⟩)
theorem find_at : ∀ {l : List E} {k : Nat} {x : E} {a : Int}, l[k]? = some x → x.1 = a → (∀ y ∈ l.take k, y.1 ≠ a) → find l a = x.2
  | [], k, x, a, h, _, _ => by simp at h
  | y :: l, 0, x, a, h, ha, _ => by
    have e : y = x := by simpa using h
    rw [e, find, if_pos ha]
  | y :: l, k + 1, x, a, h, ha, hn => by
    rw [find, if_neg (hn y (by simp))]
    exact find_at (by simpa using h) ha (fun z hz => hn z (by rw [List.take_succ_cons]; exact List.mem_cons_of_mem _ hz))
/-- All ports below k but one. -/
def oth (p : Int) (k : Nat) : List Int := ((List.range k).map fun i : Nat => (i : Int)).filter fun q => !(q == p)
theorem oth_all (p : Int) : oth p 4 = others p := rfl
theorem oth_yes {p : Int} {k : Nat} (h : (k : Int) ≠ p) : oth p (k + 1) = oth p k ++ [(k : Int)] := by
  unfold oth
  rw [List.range_succ, List.map_append, List.filter_append]
  simp [h]
theorem oth_no {p : Int} {k : Nat} (h : (k : Int) = p) : oth p (k + 1) = oth p k := by
  unfold oth
  rw [List.range_succ, List.map_append, List.filter_append]
  simp [h]
theorem oth_len (p : Int) (k : Nat) : (oth p k).length ≤ k := by
  unfold oth
  refine Nat.le_trans (List.length_filter_le _ _) ?_
  simp
theorem others_len {p : Int} (hp : isP p) : (others p).length = 3 := by
  obtain ⟨h1, h2⟩ := hp
  rcases (show p = 0 ∨ p = 1 ∨ p = 2 ∨ p = 3 by omega) with rfl | rfl | rfl | rfl <;> decide
theorem others_not {p : Int} : p ∉ others p := by
  unfold others
  rw [List.mem_filter]
  simp
theorem out_not (l : List E) (to port : Int) : port ∉ out l to port := by
  unfold out
  split
  · simp
  · rename_i h
    split
    · exact others_not
    · simp only [List.mem_cons, List.not_mem_nil, or_false]
      exact fun e => h e.symm
end Go.Proofs.YtbgbmchpikdgoaaDoor.Learn
