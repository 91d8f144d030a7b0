/- Deficit round robin: the mathematics, without the program. No statement is proved here. -/
import Derived.Test.YtlojehakifagbaaDoorKit
namespace Go.Proofs.YtlojehakifagbaaDoor.Drr
set_option linter.unusedVariables false

/-- The sum of some sizes. -/
def tot : List Int → Int
  | [] => 0
  | x :: l => x + tot l
theorem tot_append (a b : List Int) : tot (a ++ b) = tot a + tot b := by
  induction a with
  | nil => simp [tot]
  | cons x a ih => simp only [List.cons_append, tot, ih]; omega
theorem tot_take_add (l : List Int) (m n : Nat) : tot (l.take (m + n)) = tot (l.take m) + tot ((l.drop m).take n) := by
  rw [List.take_add, tot_append]
theorem tot_nonneg {l : List Int} (h : ∀ x ∈ l, 1 ≤ x) : 0 ≤ tot l := by
  induction l with
  | nil => simp [tot]
  | cons x l ih =>
    have h1 := h x (by simp)
    have h2 := ih (fun y hy => h y (by simp [hy]))
    simp only [tot]; omega
theorem tot_mono {l : List Int} (h : ∀ x ∈ l, 1 ≤ x) {i k : Nat} (hik : i ≤ k) : tot (l.take i) ≤ tot (l.take k) := by
  obtain ⟨d, rfl⟩ : ∃ d, k = i + d := ⟨k - i, by omega⟩
  rw [tot_take_add]
  have := tot_nonneg (l := (l.drop i).take d) (fun x hx => h x (List.mem_of_mem_drop (List.mem_of_mem_take hx)))
  omega
theorem tot_le {l : List Int} {M : Int} (h : ∀ x ∈ l, x ≤ M) : tot l ≤ M * l.length := by
  induction l with
  | nil => simp [tot]
  | cons x l ih =>
    have h1 := h x (by simp)
    have h2 := ih (fun y hy => h y (by simp [hy]))
    simp only [tot, List.length_cons]
    rw [show M * ((l.length + 1 : Nat) : Int) = M * (l.length : Int) + M by rw [Int.natCast_add, Int.mul_add]; simp]
    omega

/-- How many are served with c. -/
def serve : List Int → Int → Nat
  | [], _ => 0
  | x :: l, c => if x ≤ c then serve l (c - x) + 1 else 0
theorem serve_nil (c : Int) : serve [] c = 0 := rfl
theorem serve_yes {x c : Int} {l : List Int} (h : x ≤ c) : serve (x :: l) c = serve l (c - x) + 1 := by simp [serve, h]
theorem serve_no {x c : Int} {l : List Int} (h : ¬ x ≤ c) : serve (x :: l) c = 0 := by simp [serve, h]
theorem serve_le : ∀ (l : List Int) (c : Int), serve l c ≤ l.length
  | [], _ => Nat.le_refl _
  | x :: l, c => by
    by_cases h : x ≤ c
    · rw [serve_yes h, List.length_cons]; have := serve_le l (c - x); omega
    · rw [serve_no h]; omega
theorem serve_tot : ∀ (l : List Int) (c : Int), 0 ≤ c → tot (l.take (serve l c)) ≤ c
  | [], c, h => by simp [tot, serve]; exact h
  | x :: l, c, h => by
    by_cases hx : x ≤ c
    · rw [serve_yes hx, List.take_succ_cons, tot]
      have := serve_tot l (c - x) (by omega)
      omega
    · rw [serve_no hx]; simp [tot]; exact h
/-- What stands first behind what is served is too much. -/
theorem serve_stop : ∀ (l : List Int) (c : Int) (x : Int) (r : List Int), l.drop (serve l c) = x :: r → c - tot (l.take (serve l c)) < x
  | [], c, x, r, h => by simp at h
  | y :: l, c, x, r, h => by
    by_cases hy : y ≤ c
    · rw [serve_yes hy, List.drop_succ_cons] at h
      rw [serve_yes hy, List.take_succ_cons, tot]
      have := serve_stop l (c - y) x r h
      omega
    · rw [serve_no hy] at h
      rw [List.drop_zero] at h
      injection h with h1 h2
      subst h1
      rw [serve_no hy]; simp [tot]; omega

/-- A queue that is served: its number, what waits, its counter. -/
structure F where
  num : Nat
  rest : List Int
  cnt : Int
def srv (Q : Int) (f : F) : Nat := serve f.rest (f.cnt + Q)
/-- .. after a visit. -/
def next (Q : Int) (f : F) : F := ⟨f.num, f.rest.drop (srv Q f), f.cnt + Q - tot (f.rest.take (srv Q f))⟩
def said (Q : Int) (f : F) : List Int := List.replicate (srv Q f) (f.num : Int)
/-- The rounds from some queues on: n visits, X served. -/
inductive Runs (Q : Int) : Nat → List F → List Int → Prop
  | done : Runs Q 0 [] []
  | fin {n : Nat} {f : F} {fs : List F} {X : List Int} : (next Q f).rest = [] → Runs Q n fs X → Runs Q (n + 1) (f :: fs) (said Q f ++ X)
  | more {n : Nat} {f : F} {fs : List F} {X : List Int} : (next Q f).rest ≠ [] → Runs Q n (fs ++ [next Q f]) X → Runs Q (n + 1) (f :: fs) (said Q f ++ X)
theorem runs_nil {Q : Int} {n : Nat} {X : List Int} (h : Runs Q n [] X) : n = 0 ∧ X = [] := by cases h; exact ⟨rfl, rfl⟩
theorem runs_cons {Q : Int} {n : Nat} {f : F} {fs : List F} {X : List Int} (h : Runs Q n (f :: fs) X) :
    ∃ m Y, n = m + 1 ∧ X = said Q f ++ Y ∧ (((next Q f).rest = [] ∧ Runs Q m fs Y) ∨ ((next Q f).rest ≠ [] ∧ Runs Q m (fs ++ [next Q f]) Y)) := by
  cases h with
  | fin h1 h2 => exact ⟨_, _, rfl, rfl, .inl ⟨h1, h2⟩⟩
  | more h1 h2 => exact ⟨_, _, rfl, rfl, .inr ⟨h1, h2⟩⟩

/-- A queue in the round. -/
structure Ok (f : F) : Prop where
  some : f.rest ≠ []
  lo : 0 ≤ f.cnt
  few : ∀ x r, f.rest = x :: r → f.cnt < x
  all : ∀ x ∈ f.rest, 1 ≤ x ∧ x ≤ 20
  len : f.rest.length ≤ 8
theorem Ok.up {f : F} (h : Ok f) : f.cnt ≤ 20 := by
  cases hr : f.rest with
  | nil => exact absurd hr h.some
  | cons x r =>
    have h1 := h.few x r hr
    have h2 := h.all x (by rw [hr]; simp)
    omega
theorem Ok.next {f : F} (h : Ok f) {Q : Int} (hQ : 0 ≤ Q) (hr : (next Q f).rest ≠ []) : Ok (next Q f) := by
  refine ⟨hr, ?_, fun x r e => ?_, fun x hx => h.all x (List.mem_of_mem_drop hx), ?_⟩
  · have := serve_tot f.rest (f.cnt + Q) (by have := h.lo; omega)
    simp only [Drr.next, srv]
    omega
  · exact serve_stop f.rest (f.cnt + Q) x r e
  · have := h.len
    simp only [Drr.next, List.length_drop]; omega
def need (f : F) : Nat := (tot f.rest - f.cnt).toNat
theorem Ok.need {f : F} (h : Ok f) : f.cnt < tot f.rest := by
  cases hr : f.rest with
  | nil => exact absurd hr h.some
  | cons x r =>
    have h1 := h.few x r hr
    have h2 := tot_nonneg (l := r) (fun y hy => (h.all y (by rw [hr]; simp [hy])).1)
    simp only [tot]; omega
theorem need_next {f : F} (h : Ok f) {Q : Int} (hQ : 1 ≤ Q) (hr : (next Q f).rest ≠ []) : Drr.need (next Q f) < Drr.need f := by
  have h1 := h.need
  have h2 := (h.next (by omega) hr).need
  have h3 : tot f.rest = tot (f.rest.take (srv Q f)) + tot (f.rest.drop (srv Q f)) := by rw [← tot_append, List.take_append_drop]
  have e1 : (next Q f).rest = f.rest.drop (srv Q f) := rfl
  have e2 : (next Q f).cnt = f.cnt + Q - tot (f.rest.take (srv Q f)) := rfl
  unfold Drr.need
  rw [e1, e2] at h2 ⊢
  omega
def needs : List F → Nat
  | [] => 0
  | f :: fs => Drr.need f + needs fs
theorem needs_append (a b : List F) : needs (a ++ b) = needs a + needs b := by
  induction a with
  | nil => simp [needs]
  | cons x a ih => simp only [List.cons_append, needs, ih]; omega
theorem runs_some {Q : Int} (hQ : 1 ≤ Q) : ∀ (N : Nat) (fs : List F), needs fs ≤ N → (∀ f ∈ fs, Ok f) → ∃ n X, Runs Q n fs X := by
  intro N
  induction N with
  | zero =>
    intro fs hN hok
    cases fs with
    | nil => exact ⟨0, [], .done⟩
    | cons f fs =>
      have h1 := (hok f (by simp)).need
      simp only [needs, Drr.need] at hN
      omega
  | succ N ih =>
    intro fs hN hok
    cases fs with
    | nil => exact ⟨0, [], .done⟩
    | cons f fs =>
      have hf := hok f (by simp)
      have h1 := hf.need
      simp only [needs] at hN
      by_cases hr : (next Q f).rest = []
      · obtain ⟨n, X, h⟩ := ih fs (by unfold Drr.need at hN; omega) (fun g hg => hok g (by simp [hg]))
        exact ⟨_, _, .fin hr h⟩
      · obtain ⟨n, X, h⟩ := ih (fs ++ [next Q f]) (by
          rw [needs_append]
          have := need_next hf hQ hr
          simp only [needs]; omega) (fun g hg => by
          rcases List.mem_append.1 hg with hg | hg
          · exact hok g (by simp [hg])
          · rw [List.mem_singleton.1 hg]; exact hf.next (by omega) hr)
        exact ⟨_, _, .more hr h⟩

/-- A queue of those that came. -/
def row (qs : List (List Int)) (k : Nat) : List Int := qs[k]?.getD []
theorem row_out {qs : List (List Int)} {k : Nat} (h : qs.length ≤ k) : row qs k = [] := by simp [row, List.getElem?_eq_none h]
def things (qs : List (List Int)) : Nat := (qs.map List.length).sum
def lens (fs : List F) : Nat := (fs.map fun f => f.rest.length).sum
/-- The first round, from queue k on. -/
def startFrom (k : Nat) : List (List Int) → List F
  | [] => []
  | l :: ls => if l = [] then startFrom (k + 1) ls else ⟨k, l, 0⟩ :: startFrom (k + 1) ls
def start (qs : List (List Int)) : List F := startFrom 0 qs
theorem startFrom_num : ∀ (ls : List (List Int)) (k : Nat), ∀ f ∈ startFrom k ls, k ≤ f.num ∧ f.num < k + ls.length ∧ f.rest = ls[f.num - k]?.getD [] ∧ f.rest ≠ [] ∧ f.cnt = 0
  | [], k, f, h => by simp [startFrom] at h
  | l :: ls, k, f, h => by
    have key : ∀ f ∈ startFrom (k + 1) ls, k ≤ f.num ∧ f.num < k + (l :: ls).length ∧ f.rest = (l :: ls)[f.num - k]?.getD [] ∧ f.rest ≠ [] ∧ f.cnt = 0 := fun f hf => by
      obtain ⟨h1, h2, h3, h4⟩ := startFrom_num ls (k + 1) f hf
      refine ⟨by omega, by rw [List.length_cons]; omega, ?_, h4⟩
      rw [h3, show f.num - k = (f.num - (k + 1)) + 1 by omega]
      rfl
    unfold startFrom at h
    split at h
    · exact key f h
    · rename_i hl
      rcases List.mem_cons.1 h with rfl | h
      · exact ⟨Nat.le_refl _, by simp, by simp, hl, rfl⟩
      · exact key f h
theorem startFrom_sorted : ∀ (ls : List (List Int)) (k : Nat), (startFrom k ls).Pairwise fun f g => f.num < g.num
  | [], k => by simp [startFrom]
  | l :: ls, k => by
    unfold startFrom
    split
    · exact startFrom_sorted ls (k + 1)
    · refine List.pairwise_cons.2 ⟨fun g hg => ?_, startFrom_sorted ls (k + 1)⟩
      have := (startFrom_num ls (k + 1) g hg).1
      show k < g.num
      omega
theorem startFrom_lens : ∀ (ls : List (List Int)) (k : Nat), lens (startFrom k ls) = things ls
  | [], k => by simp [startFrom, lens, things]
  | l :: ls, k => by
    have ih := startFrom_lens ls (k + 1)
    unfold startFrom
    split
    · rename_i hl
      rw [ih, hl]; simp [things]
    · simp only [lens, things, List.map_cons, List.sum_cons] at ih ⊢
      rw [ih]
theorem startFrom_fin : ∀ (ls : List (List Int)) (k j : Nat), j < ls.length → (∀ f ∈ startFrom k ls, f.num ≠ k + j) → ls[j]?.getD [] = []
  | [], k, j, h, _ => by simp at h
  | l :: ls, k, 0, h, hf => by
    by_cases hl : l = []
    · simpa using hl
    · exact absurd rfl (hf ⟨k, l, 0⟩ (by simp [startFrom, hl]))
  | l :: ls, k, j + 1, h, hf => by
    have := startFrom_fin ls (k + 1) j (by simpa using h) (fun f hm => by
      have h1 : f ∈ startFrom k (l :: ls) := by
        unfold startFrom
        split
        · exact hm
        · exact List.mem_cons_of_mem _ hm
      have := hf f h1
      omega)
    simpa using this
def startTo (qs : List (List Int)) (k : Nat) : List F := startFrom 0 (qs.take k)
theorem startFrom_append : ∀ (a b : List (List Int)) (k : Nat), startFrom k (a ++ b) = startFrom k a ++ startFrom (k + a.length) b
  | [], b, k => by simp [startFrom]
  | l :: a, b, k => by
    have ih := startFrom_append a b (k + 1)
    simp only [List.cons_append, startFrom, List.length_cons]
    rw [ih, show k + 1 + a.length = k + (a.length + 1) by omega]
    split <;> simp
theorem startTo_succ {qs : List (List Int)} {k : Nat} (hk : k < qs.length) : startTo qs (k + 1) = if row qs k = [] then startTo qs k else startTo qs k ++ [⟨k, row qs k, 0⟩] := by
  unfold startTo row
  rw [List.take_add_one, List.getElem?_eq_getElem hk, startFrom_append]
  simp only [Option.toList, List.length_take, Nat.zero_add, Option.getD, startFrom]
  rw [Nat.min_eq_left (by omega)]
  split <;> simp
theorem startTo_end (qs : List (List Int)) : startTo qs qs.length = start qs := by unfold startTo; rw [List.take_length]; rfl

/-- What may come: no more than five queues, none longer than eight, sizes of one to twenty. -/
def fine (l : List Int) : Prop := l.length ≤ 8 ∧ ∀ x ∈ l, 1 ≤ x ∧ x ≤ 20
def Good (qs : List (List Int)) : Prop := qs.length ≤ 5 ∧ ∀ l ∈ qs, fine l
theorem Good.row {qs : List (List Int)} (h : Good qs) (k : Nat) : fine (row qs k) := by
  unfold Drr.row
  cases hk : qs[k]? with
  | none => exact ⟨by simp, by simp⟩
  | some l => exact h.2 l (List.mem_of_getElem? hk)
theorem start_ok {qs : List (List Int)} (h : Good qs) : ∀ f ∈ start qs, Ok f := fun f hf => by
  obtain ⟨h1, h2, h3, h4, h5⟩ := startFrom_num qs 0 f hf
  have h6 : f.rest = Drr.row qs f.num := h3
  have h7 := h.row f.num
  rw [← h6] at h7
  exact ⟨h4, by omega, fun x r e => by have := h7.2 x (by rw [e]; simp); omega, h7.2, h7.1⟩
theorem things_le {qs : List (List Int)} (h : Good qs) : things qs ≤ 40 := by
  have : ∀ ls : List (List Int), (∀ l ∈ ls, l.length ≤ 8) → things ls ≤ 8 * ls.length := by
    intro ls
    induction ls with
    | nil => simp [things]
    | cons l ls ih =>
      intro hh
      have h1 := hh l (by simp)
      have h2 := ih (fun m hm => hh m (by simp [hm]))
      simp only [things, List.map_cons, List.sum_cons, List.length_cons] at h2 ⊢
      omega
  have h1 := this qs (fun l hl => (h.2 l hl).1)
  have h2 := h.1
  omega

/-- All along: o is served, fs stand in the round. -/
structure Inv (qs : List (List Int)) (o : List Int) (fs : List F) : Prop where
  nd : (fs.map F.num).Nodup
  mem : ∀ f ∈ fs, f.num < qs.length ∧ f.rest = (row qs f.num).drop (o.count (f.num : Int)) ∧ f.rest ≠ []
  fin : ∀ k, (∀ f ∈ fs, f.num ≠ k) → o.count (k : Int) = (row qs k).length
  elems : ∀ x ∈ o, ∃ k : Nat, k < qs.length ∧ x = (k : Int)
  len : o.length + lens fs = things qs
theorem Inv.start (qs : List (List Int)) : Inv qs [] (start qs) := by
  refine ⟨?_, fun f hf => ?_, fun k hk => ?_, by simp, by rw [List.length_nil, Nat.zero_add]; exact startFrom_lens qs 0⟩
  · exact List.pairwise_map.2 ((startFrom_sorted qs 0).imp (fun h => by omega))
  · obtain ⟨h1, h2, h3, h4, h5⟩ := startFrom_num qs 0 f hf
    exact ⟨by omega, by rw [List.count_nil, List.drop_zero]; exact h3, h4⟩
  · by_cases h : k < qs.length
    · have : row qs k = [] := startFrom_fin qs 0 k h (fun f hf => by rw [Nat.zero_add]; exact hk f hf)
      rw [this]; simp
    · rw [row_out (by omega)]; simp
theorem count_rep (n : Nat) (a b : Nat) : (List.replicate n (a : Int)).count (b : Int) = if a = b then n else 0 := by
  rw [List.count_replicate]
  by_cases h : a = b
  · rw [if_pos h, if_pos (by rw [h]; simp)]
  · rw [if_neg h, if_neg (by simp; omega)]
theorem lens_append (a b : List F) : lens (a ++ b) = lens a + lens b := by simp [lens]
theorem lens_cons (f : F) (fs : List F) : lens (f :: fs) = f.rest.length + lens fs := by simp [lens]
theorem Inv.le {qs : List (List Int)} {o : List Int} {fs : List F} (h : Inv qs o fs) (k : Nat) : o.count (k : Int) ≤ (row qs k).length := by
  by_cases hk : ∀ f ∈ fs, f.num ≠ k
  · exact Nat.le_of_eq (h.fin k hk)
  · have : ∃ f, f ∈ fs ∧ f.num = k := by
      apply Classical.byContradiction
      intro hn
      exact hk (fun f hf e => hn ⟨f, hf, e⟩)
    obtain ⟨f, hf, rfl⟩ := this
    obtain ⟨h1, h2, h3⟩ := h.mem f hf
    rcases Nat.lt_or_ge (o.count (f.num : Int)) (row qs f.num).length with h4 | h4
    · omega
    · rw [List.drop_eq_nil_of_le h4] at h2
      exact absurd h2 h3
theorem Inv.step {qs : List (List Int)} {o : List Int} {f : F} {fs : List F} (Q : Int) (h : Inv qs o (f :: fs)) :
    ((next Q f).rest = [] → Inv qs (o ++ said Q f) fs) ∧ ((next Q f).rest ≠ [] → Inv qs (o ++ said Q f) (fs ++ [next Q f])) := by
  have hf := h.mem f (by simp)
  have hnd := h.nd
  rw [List.map_cons, List.nodup_cons] at hnd
  have hne : ∀ g ∈ fs, g.num ≠ f.num := fun g hg e => hnd.1 (by rw [← e]; exact List.mem_map_of_mem hg)
  have hc : ∀ k : Nat, (o ++ said Q f).count (k : Int) = o.count (k : Int) + if f.num = k then srv Q f else 0 := fun k => by
    rw [List.count_append]; unfold said; rw [count_rep]
  have hsl : srv Q f ≤ f.rest.length := serve_le _ _
  have hlen : (o ++ said Q f).length = o.length + srv Q f := by simp [said]
  have hl := h.len
  rw [lens_cons] at hl
  have hel : ∀ x ∈ o ++ said Q f, ∃ k : Nat, k < qs.length ∧ x = (k : Int) := fun x hx => by
    rcases List.mem_append.1 hx with hx | hx
    · exact h.elems x hx
    · exact ⟨f.num, hf.1, List.eq_of_mem_replicate hx⟩
  have hmem : ∀ g ∈ fs, g.num < qs.length ∧ g.rest = (row qs g.num).drop ((o ++ said Q f).count (g.num : Int)) ∧ g.rest ≠ [] := fun g hg => by
    have hg' := h.mem g (by simp [hg])
    rw [hc, if_neg (fun e => hne g hg e.symm), Nat.add_zero]
    exact hg'
  have hrn : (next Q f).rest = (row qs f.num).drop (o.count (f.num : Int) + srv Q f) := by
    show f.rest.drop (srv Q f) = _
    rw [hf.2.1, List.drop_drop]
  constructor
  · intro hr
    refine ⟨hnd.2, hmem, fun k hk => ?_, hel, ?_⟩
    · by_cases e : f.num = k
      · subst e
        rw [hc, if_pos rfl]
        have h1 : f.rest.length ≤ srv Q f := by
          have : (f.rest.drop (srv Q f)).length = 0 := by rw [show f.rest.drop (srv Q f) = [] from hr]; rfl
          rw [List.length_drop] at this; omega
        have h2 := congrArg List.length hf.2.1
        rw [List.length_drop] at h2
        have h3 := h.le f.num
        omega
      · rw [hc, if_neg e, Nat.add_zero]
        exact h.fin k (fun g hg => by
          rcases List.mem_cons.1 hg with rfl | hg
          · exact e
          · exact hk g hg)
    · have h1 : f.rest.length ≤ srv Q f := by
        have : (f.rest.drop (srv Q f)).length = 0 := by rw [show f.rest.drop (srv Q f) = [] from hr]; rfl
        rw [List.length_drop] at this; omega
      rw [hlen]; omega
  · intro hr
    refine ⟨?_, fun g hg => ?_, fun k hk => ?_, hel, ?_⟩
    · rw [List.map_append, List.nodup_append]
      refine ⟨hnd.2, by simp, fun a ha b hb => ?_⟩
      obtain ⟨g, hg, rfl⟩ := List.mem_map.1 ha
      have : b = f.num := by simpa [next] using hb
      rw [this]; exact hne g hg
    · rcases List.mem_append.1 hg with hg | hg
      · exact hmem g hg
      · obtain rfl := List.mem_singleton.1 hg
        refine ⟨hf.1, ?_, hr⟩
        show _ = (row qs f.num).drop ((o ++ said Q f).count (f.num : Int))
        rw [hc, if_pos rfl, ← hrn]
    · have e : f.num ≠ k := hk (next Q f) (by simp)
      rw [hc, if_neg e, Nat.add_zero]
      exact h.fin k (fun g hg => by
        rcases List.mem_cons.1 hg with rfl | hg
        · exact e
        · exact hk g (by simp [hg]))
    · rw [hlen, lens_append, lens_cons]
      have : (next Q f).rest.length = f.rest.length - srv Q f := by show (f.rest.drop (srv Q f)).length = _; rw [List.length_drop]
      rw [this]; simp [lens] at hl ⊢; omega
/-- Whatever holds of a step holds at the end. -/
theorem runs_ind {Q : Int} (P : List Int → List F → Prop) (hfin : ∀ o f fs, P o (f :: fs) → (next Q f).rest = [] → P (o ++ said Q f) fs) (hmore : ∀ o f fs, P o (f :: fs) → (next Q f).rest ≠ [] → P (o ++ said Q f) (fs ++ [next Q f])) :
    ∀ (n : Nat) (o : List Int) (fs : List F) (X : List Int), Runs Q n fs X → P o fs → P (o ++ X) [] := by
  intro n
  induction n with
  | zero =>
    intro o fs X h hp
    cases h
    rw [List.append_nil]; exact hp
  | succ n ih =>
    intro o fs X h hp
    cases h with
    | fin h1 h2 => rw [← List.append_assoc]; exact ih _ _ _ h2 (hfin _ _ _ hp h1)
    | more h1 h2 => rw [← List.append_assoc]; exact ih _ _ _ h2 (hmore _ _ _ hp h1)
theorem runs_inv {qs : List (List Int)} {Q : Int} {n : Nat} {o : List Int} {fs : List F} {X : List Int} (h : Runs Q n fs X) (hi : Inv qs o fs) : Inv qs (o ++ X) [] :=
  runs_ind (Inv qs) (fun o f fs hp hr => (hp.step Q).1 hr) (fun o f fs hp hr => (hp.step Q).2 hr) n o fs X h hi

/-- What is served of a queue. -/
def served (qs : List (List Int)) (o : List Int) (k : Nat) : Int := tot ((row qs k).take (o.count (k : Int)))
theorem served_more {qs : List (List Int)} {o : List Int} {f : F} {fs : List F} (h : Inv qs o (f :: fs)) (i k : Nat) : served qs (o ++ List.replicate i (f.num : Int)) k = served qs o k + if f.num = k then tot (f.rest.take i) else 0 := by
  unfold served
  rw [List.count_append, count_rep]
  by_cases e : f.num = k
  · subst e
    rw [if_pos rfl, if_pos rfl, tot_take_add, ← (h.mem f (by simp)).2.1]
  · rw [if_neg e, if_neg e]; simp

/-- All that are not yet through are between two bounds. -/
def Btw (qs : List (List Int)) (Q M : Int) (o : List Int) : Prop := ∃ t : Nat, ∀ k : Nat, o.count (k : Int) < (row qs k).length → t * Q - M ≤ served qs o k ∧ served qs o k ≤ (t + 1) * Q
def Pre (qs : List (List Int)) (Q M : Int) (o : List Int) : Prop := ∀ j, j ≤ o.length → Btw qs Q M (o.take j)
structure Inv2 (qs : List (List Int)) (Q M : Int) (t : Nat) (T D : List F) (o : List Int) : Prop where
  inv : Inv qs o (T ++ D)
  todo : ∀ f ∈ T, served qs o f.num + f.cnt = t * Q ∧ 0 ≤ f.cnt ∧ f.cnt ≤ M
  done : ∀ f ∈ D, served qs o f.num + f.cnt = (t + 1) * Q ∧ 0 ≤ f.cnt ∧ f.cnt ≤ M
  pre : Pre qs Q M o
theorem fair_step {qs : List (List Int)} {Q M : Int} (hg : ∀ k, ∀ x ∈ row qs k, 1 ≤ x ∧ x ≤ M) (hQ : 1 ≤ Q) {t : Nat} {f : F} {T D : List F} {o : List Int} (h : Inv2 qs Q M t (f :: T) D o) :
    ((next Q f).rest = [] → Inv2 qs Q M t T D (o ++ said Q f)) ∧ ((next Q f).rest ≠ [] → Inv2 qs Q M t T (D ++ [next Q f]) (o ++ said Q f)) := by
  have hinv : Inv qs o (f :: (T ++ D)) := h.inv
  have hnd := hinv.nd
  rw [List.map_cons, List.nodup_cons] at hnd
  have hne : ∀ g ∈ T ++ D, f.num ≠ g.num := fun g hg e => hnd.1 (by rw [e]; exact List.mem_map_of_mem hg)
  obtain ⟨f1, f2, f3⟩ := h.todo f (by simp)
  obtain ⟨m1, m2, m3⟩ := hinv.mem f (by simp)
  have hall : ∀ x ∈ f.rest, 1 ≤ x := fun x hx => by rw [m2] at hx; exact (hg f.num x (List.mem_of_mem_drop hx)).1
  have hst := serve_tot f.rest (f.cnt + Q) (by omega)
  have hmul : ((t : Int) + 1) * Q = t * Q + Q := by rw [Int.add_mul, Int.one_mul]
  have hse : ∀ g ∈ T ++ D, served qs (o ++ said Q f) g.num = served qs o g.num := fun g hg => by
    unfold said
    rw [served_more hinv, if_neg (hne g hg), Int.add_zero]
  have hpre : Pre qs Q M (o ++ said Q f) := fun j hj => by
    by_cases hjo : j ≤ o.length
    · rw [List.take_append_of_le_length hjo]; exact h.pre j hjo
    · obtain ⟨i, rfl⟩ : ∃ i, j = o.length + i := ⟨j - o.length, by omega⟩
      have hi : i ≤ srv Q f := by simp [said] at hj; exact hj
      rw [List.take_append, List.take_of_length_le (by omega), Nat.add_sub_cancel_left]
      unfold said
      rw [List.take_replicate, Nat.min_eq_left hi]
      refine ⟨t, fun k hk => ?_⟩
      rw [served_more hinv]
      by_cases e : f.num = k
      · subst e
        rw [if_pos rfl, hmul]
        have h1 := tot_mono hall hi
        have h2 := tot_nonneg (l := f.rest.take i) (fun x hx => hall x (List.mem_of_mem_take hx))
        unfold srv at h1
        omega
      · rw [if_neg e, Int.add_zero, hmul]
        rw [List.count_append, count_rep, if_neg e, Nat.add_zero] at hk
        by_cases hin : ∃ g, g ∈ T ++ D ∧ g.num = k
        · obtain ⟨g, hg, rfl⟩ := hin
          rcases List.mem_append.1 hg with hg | hg
          · obtain ⟨g1, g2, g3⟩ := h.todo g (by simp [hg])
            omega
          · obtain ⟨g1, g2, g3⟩ := h.done g hg
            rw [hmul] at g1
            omega
        · have := hinv.fin k (fun g hg e2 => by
            rcases List.mem_cons.1 hg with rfl | hg
            · exact e e2
            · exact hin ⟨g, hg, e2⟩)
          omega
  have htodo : ∀ g ∈ T, served qs (o ++ said Q f) g.num + g.cnt = t * Q ∧ 0 ≤ g.cnt ∧ g.cnt ≤ M := fun g hg => by
    rw [hse g (by simp [hg])]; exact h.todo g (by simp [hg])
  have hdone : ∀ g ∈ D, served qs (o ++ said Q f) g.num + g.cnt = (t + 1) * Q ∧ 0 ≤ g.cnt ∧ g.cnt ≤ M := fun g hg => by
    rw [hse g (by simp [hg])]; exact h.done g hg
  constructor
  · intro hr
    exact ⟨(hinv.step Q).1 hr, htodo, hdone, hpre⟩
  · intro hr
    refine ⟨by have := (hinv.step Q).2 hr; rwa [List.append_assoc] at this, htodo, fun g hgm => ?_, hpre⟩
    rcases List.mem_append.1 hgm with hgm | hgm
    · exact hdone g hgm
    · obtain rfl := List.mem_singleton.1 hgm
      have e1 : (next Q f).num = f.num := rfl
      have e2 : (next Q f).cnt = f.cnt + Q - tot (f.rest.take (srv Q f)) := rfl
      have e3 := served_more hinv (srv Q f) f.num
      rw [if_pos rfl] at e3
      have hs : srv Q f = serve f.rest (f.cnt + Q) := rfl
      rw [← hs] at hst
      refine ⟨by rw [e1, e2]; unfold said; rw [e3, hmul]; omega, by rw [e2]; omega, ?_⟩
      cases hd : (next Q f).rest with
      | nil => exact absurd hd hr
      | cons x r =>
        have h1 := serve_stop f.rest (f.cnt + Q) x r hd
        have h2 := hg f.num x (by
          have : x ∈ f.rest := List.mem_of_mem_drop (show x ∈ f.rest.drop (srv Q f) from by rw [show f.rest.drop (srv Q f) = x :: r from hd]; simp)
          rw [m2] at this
          exact List.mem_of_mem_drop this)
        rw [e2, hs]; omega
theorem fair_runs {qs : List (List Int)} {Q M : Int} (hg : ∀ k, ∀ x ∈ row qs k, 1 ≤ x ∧ x ≤ M) (hQ : 1 ≤ Q) : ∀ (n : Nat) (t : Nat) (T D : List F) (o X : List Int), Runs Q n (T ++ D) X → Inv2 qs Q M t T D o → Pre qs Q M (o ++ X) := by
  intro n
  induction n with
  | zero =>
    intro t T D o X h hi
    cases hTD : T ++ D with
    | nil =>
      rw [hTD] at h
      obtain ⟨_, rfl⟩ := runs_nil h
      rw [List.append_nil]; exact hi.pre
    | cons f fs =>
      rw [hTD] at h
      obtain ⟨m, Y, h1, _⟩ := runs_cons h
      omega
  | succ n ih =>
    intro t T D o X h hi
    have key : ∀ (t : Nat) (f : F) (T D : List F), Runs Q (n + 1) (f :: (T ++ D)) X → Inv2 qs Q M t (f :: T) D o → Pre qs Q M (o ++ X) := fun t f T D h hi => by
      obtain ⟨m, Y, h1, rfl, h2⟩ := runs_cons h
      obtain rfl : n = m := by omega
      rw [← List.append_assoc]
      rcases h2 with ⟨h3, h4⟩ | ⟨h3, h4⟩
      · exact ih t T D _ Y h4 ((fair_step hg hQ hi).1 h3)
      · exact ih t T (D ++ [next Q f]) _ Y (by rwa [List.append_assoc] at h4) ((fair_step hg hQ hi).2 h3)
    cases T with
    | cons f T => exact key t f T D h hi
    | nil =>
      cases D with
      | nil => cases h
      | cons f D =>
        refine key (t + 1) f D [] (by rwa [List.append_nil]) ⟨by rw [List.append_nil]; exact hi.inv, fun g hg => ?_, by simp, hi.pre⟩
        have := hi.done g hg
        rw [Int.natCast_add]
        exact this
/-- What is served is fair all along. -/
theorem fair_all {qs : List (List Int)} {Q M : Int} (hg : ∀ k, ∀ x ∈ row qs k, 1 ≤ x ∧ x ≤ M) (hM : 0 ≤ M) (hQ : 1 ≤ Q) {n : Nat} {X : List Int} (h : Runs Q n (start qs) X) : Pre qs Q M X := by
  have := fair_runs hg hQ n 0 (start qs) [] [] X (by rwa [List.append_nil]) ⟨by rw [List.append_nil]; exact Inv.start qs, fun f hf => ?_, by simp, fun j hj => ?_⟩
  · simpa using this
  · obtain ⟨h1, h2, h3, h4, h5⟩ := startFrom_num qs 0 f hf
    rw [h5]; simp [served, tot]; exact hM
  · refine ⟨0, fun k hk => ?_⟩
    simp [served, tot]; omega
theorem fair_two {qs : List (List Int)} {Q M : Int} {o : List Int} (hM : 0 ≤ M) (h : Btw qs Q M o) {a b : Nat} (ha : o.count (a : Int) < (row qs a).length) (hb : o.count (b : Int) < (row qs b).length) : served qs o a - served qs o b ≤ Q + 2 * M := by
  obtain ⟨t, ht⟩ := h
  have h1 := ht a ha
  have h2 := ht b hb
  rw [Int.add_mul, Int.one_mul] at h1
  omega

/-- In the first turn. -/
theorem soon_runs {qs : List (List Int)} {Q : Int} (hg : ∀ k, ∀ x ∈ row qs k, 1 ≤ x ∧ x ≤ Q) (hQ : 0 ≤ Q) : ∀ (T : List F) (n : Nat) (D : List F) (o X : List Int), Runs Q n (T ++ D) X → Inv qs o (T ++ D) → (∀ f ∈ T, o.count (f.num : Int) = 0 ∧ f.cnt = 0) →
    T.Pairwise (fun f g => f.num < g.num) → (∀ x ∈ o, ∀ f ∈ T, x < (f.num : Int)) → (∀ k, served qs o k ≤ Q) → ∀ f ∈ T, ∃ o1 X1, o ++ X = o1 ++ (f.num : Int) :: X1 ∧ (∀ x ∈ o1, x < (f.num : Int)) ∧ ∀ k, served qs o1 k ≤ Q
  | [], _, _, _, _, _, _, _, _, _, _, f, hf => by simp at hf
  | g :: T, n, D, o, X, h, hi, hz, hp, hlt, hs, f, hf => by
    obtain ⟨m, Y, h1, rfl, h2⟩ := runs_cons (show Runs Q n (g :: (T ++ D)) X from h)
    have hinv : Inv qs o (g :: (T ++ D)) := hi
    obtain ⟨m1, m2, m3⟩ := hinv.mem g (by simp)
    obtain ⟨z1, z2⟩ := hz g (by simp)
    have hnd := hinv.nd
    rw [List.map_cons, List.nodup_cons] at hnd
    have hne : ∀ k ∈ T ++ D, g.num ≠ k.num := fun k hk e => hnd.1 (by rw [e]; exact List.mem_map_of_mem hk)
    have hpos : 0 < srv Q g := by
      unfold srv
      cases hr : g.rest with
      | nil => exact absurd hr m3
      | cons x r =>
        rw [serve_yes (by
          have : x ∈ g.rest := by rw [hr]; simp
          rw [m2] at this
          have := hg g.num x (List.mem_of_mem_drop this)
          omega)]
        omega
    rcases List.mem_cons.1 hf with rfl | hf
    · refine ⟨o, List.replicate (srv Q f - 1) (f.num : Int) ++ Y, ?_, fun x hx => hlt x hx f (by simp), hs⟩
      unfold said
      obtain ⟨d, hd⟩ : ∃ d, srv Q f = d + 1 := ⟨srv Q f - 1, by omega⟩
      rw [hd, List.replicate_succ]; simp
    · have hpw := List.pairwise_cons.1 hp
      have hz' : ∀ k ∈ T, (o ++ said Q g).count (k.num : Int) = 0 ∧ k.cnt = 0 := fun k hk => by
        rw [List.count_append]; unfold said; rw [count_rep, if_neg (hne k (by simp [hk])), Nat.add_zero]
        exact hz k (by simp [hk])
      have hlt' : ∀ x ∈ o ++ said Q g, ∀ k ∈ T, x < (k.num : Int) := fun x hx k hk => by
        rcases List.mem_append.1 hx with hx | hx
        · exact hlt x hx k (by simp [hk])
        · rw [List.eq_of_mem_replicate hx]
          have := hpw.1 k hk
          omega
      have hs' : ∀ k, served qs (o ++ said Q g) k ≤ Q := fun k => by
        unfold said
        rw [served_more hinv]
        by_cases e : g.num = k
        · subst e
          have h0 : served qs o g.num = 0 := by unfold served; rw [z1]; simp [tot]
          have h3 := serve_tot g.rest (g.cnt + Q) (by omega)
          rw [if_pos rfl, h0]
          unfold srv
          omega
        · rw [if_neg e, Int.add_zero]; exact hs k
      rcases h2 with ⟨h3, h4⟩ | ⟨h3, h4⟩
      · have := soon_runs hg hQ T m D (o ++ said Q g) Y h4 ((hinv.step Q).1 h3) hz' hpw.2 hlt' hs' f hf
        rwa [List.append_assoc] at this
      · have := soon_runs hg hQ T m (D ++ [next Q g]) (o ++ said Q g) Y (by rwa [List.append_assoc] at h4) (by have := (hinv.step Q).2 h3; rwa [List.append_assoc] at this) hz' hpw.2 hlt' hs' f hf
        rwa [List.append_assoc] at this
theorem soon_all {qs : List (List Int)} {Q : Int} (hg : ∀ k, ∀ x ∈ row qs k, 1 ≤ x ∧ x ≤ Q) (hQ : 0 ≤ Q) {n : Nat} {X : List Int} (h : Runs Q n (start qs) X) {i : Nat} (hi : i < qs.length) (hr : row qs i ≠ []) :
    ∃ o1 X1, X = o1 ++ (i : Int) :: X1 ∧ (∀ x ∈ o1, x < (i : Int)) ∧ ∀ k, served qs o1 k ≤ Q := by
  have hex : ∃ f, f ∈ start qs ∧ f.num = i := by
    apply Classical.byContradiction
    intro hn
    exact hr (startFrom_fin qs 0 i hi (fun f hf e => hn ⟨f, hf, by omega⟩))
  obtain ⟨f, hf, rfl⟩ := hex
  have := soon_runs hg hQ (start qs) n [] [] X (by rwa [List.append_nil]) (by rw [List.append_nil]; exact Inv.start qs) (fun g hg => ⟨by simp, (startFrom_num qs 0 g hg).2.2.2.2⟩) (startFrom_sorted qs 0) (by simp) (fun k => by simp [served, tot]; exact hQ) f hf
  simpa using this
/-- All of it. -/
theorem once_all {qs : List (List Int)} {Q : Int} {n : Nat} {X : List Int} (h : Runs Q n (start qs) X) : (∀ k : Nat, X.count (k : Int) = (row qs k).length) ∧ X.length = things qs ∧ ∀ x ∈ X, ∃ k : Nat, k < qs.length ∧ x = (k : Int) := by
  have := runs_inv h (Inv.start qs)
  rw [List.nil_append] at this
  exact ⟨fun k => this.fin k (by simp), by have := this.len; simpa [lens] using this, this.elems⟩
theorem runs_det {Q : Int} : ∀ (n m : Nat) (fs : List F) (X Y : List Int), Runs Q n fs X → Runs Q m fs Y → n = m ∧ X = Y := by
  intro n
  induction n with
  | zero =>
    intro m fs X Y h1 h2
    cases h1
    obtain ⟨rfl, rfl⟩ := runs_nil h2
    exact ⟨rfl, rfl⟩
  | succ n ih =>
    intro m fs X Y h1 h2
    cases fs with
    | nil => cases h1
    | cons f fs =>
      obtain ⟨a, X', e1, rfl, h3⟩ := runs_cons h1
      obtain ⟨b, Y', rfl, rfl, h4⟩ := runs_cons h2
      obtain rfl : n = a := by omega
      rcases h3 with ⟨r1, h3⟩ | ⟨r1, h3⟩
      · rcases h4 with ⟨r2, h4⟩ | ⟨r2, h4⟩
        · obtain ⟨rfl, rfl⟩ := ih _ _ _ _ h3 h4; exact ⟨rfl, rfl⟩
        · exact absurd r1 r2
      · rcases h4 with ⟨r2, h4⟩ | ⟨r2, h4⟩
        · exact absurd r2 r1
        · obtain ⟨rfl, rfl⟩ := ih _ _ _ _ h3 h4; exact ⟨rfl, rfl⟩
end Go.Proofs.YtlojehakifagbaaDoor.Drr
