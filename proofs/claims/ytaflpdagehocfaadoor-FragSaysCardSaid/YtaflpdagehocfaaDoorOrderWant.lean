/- The stable order by counting those that come ahead. No statement is proved here. -/
import Derived.Test.YtaflpdagehocfaaDoorOrderMath
namespace Go.Proofs.YtaflpdagehocfaaDoor.Part
set_option linter.unusedVariables false

def nth (l : List Prt) (i : Nat) : Prt := l[i]?.getD ⟨0, false, .empty⟩
def bef (l : List Prt) (k i : Nat) : Bool := decide ((nth l k).pos < (nth l i).pos) || (decide ((nth l k).pos = (nth l i).pos) && decide (k < i))
theorem bef_iff (l : List Prt) (k i : Nat) : bef l k i = true ↔ ahead (nth l k, k) (nth l i, i) := by unfold bef ahead; simp
/-- How many come ahead. -/
def rank (l : List Prt) (i : Nat) : Nat := (List.range l.length).countP fun k => bef l k i
/-- For each place those of which so many come ahead. -/
def places (l : List Prt) : List Nat := (List.range l.length).flatMap fun a => (List.range l.length).filter fun i => rank l i == a
def wantL (l : List Prt) : List Prt := (places l).map (nth l)

theorem countP_lt {p q : Nat → Bool} : ∀ {L : List Nat} {x : Nat}, (∀ y ∈ L, p y = true → q y = true) → x ∈ L → q x = true → p x = false → L.countP p < L.countP q
  | a :: L, x, h, hx, hq, hp => by
    have hm : L.countP p ≤ L.countP q := List.countP_mono_left (fun y hy => h y (by simp [hy]))
    rw [List.countP_cons, List.countP_cons]
    rcases List.mem_cons.1 hx with rfl | hx
    · rw [if_pos hq, if_neg (by simp [hp])]; omega
    · have ih := countP_lt (fun y hy => h y (by simp [hy])) hx hq hp
      by_cases h1 : p a = true
      · rw [if_pos h1, if_pos (h a (by simp) h1)]; omega
      · rw [if_neg h1]; omega
theorem rank_mono (l : List Prt) {k i : Nat} (hk : k < l.length) (h : bef l k i = true) : rank l k < rank l i := by
  have hki := (bef_iff l k i).1 h
  refine countP_lt (x := k) (fun y _ hy => (bef_iff l y i).2 (ahead_trans ((bef_iff l y k).1 hy) hki)) (List.mem_range.2 hk) h ?_
  cases e : bef l k k with
  | false => rfl
  | true => exact absurd ((bef_iff l k k).1 e) (fun h => ahead_asymm h h)
theorem bef_total (l : List Prt) {k i : Nat} (h : k ≠ i) : bef l k i = true ∨ bef l i k = true := by
  rw [bef_iff, bef_iff]; unfold ahead; simp only; omega
theorem rank_inj (l : List Prt) {k i : Nat} (hk : k < l.length) (hi : i < l.length) (h : rank l k = rank l i) : k = i := by
  by_cases e : k = i
  · exact e
  · rcases bef_total l e with h1 | h1
    · have := rank_mono l hk h1; omega
    · have := rank_mono l hi h1; omega
theorem rank_lt (l : List Prt) {i : Nat} (hi : i < l.length) : rank l i < l.length := by
  have h : (List.range l.length).countP (fun k => bef l k i) < (List.range l.length).countP (fun _ => true) :=
    countP_lt (x := i) (fun _ _ _ => rfl) (List.mem_range.2 hi) rfl (by
      cases e : bef l i i with
      | false => rfl
      | true => exact absurd ((bef_iff l i i).1 e) (fun h => ahead_asymm h h))
  simpa [rank] using h
theorem mem_places (l : List Prt) (i : Nat) : i ∈ places l ↔ i < l.length := by
  unfold places
  simp only [List.mem_flatMap, List.mem_filter, List.mem_range, beq_iff_eq]
  exact ⟨fun ⟨_, _, h, _⟩ => h, fun h => ⟨rank l i, rank_lt l h, h, rfl⟩⟩
theorem places_ahead (l : List Prt) : (places l).Pairwise fun k i => bef l k i = true := by
  unfold places
  refine List.pairwise_flatMap.2 ⟨fun a _ => ?_, List.pairwise_lt_range.imp (fun {a b} hab k hk i hi => ?_)⟩
  · refine List.Pairwise.imp_of_mem (R := fun k i => k < i) (fun {k i} hk hi hlt => ?_) (List.pairwise_lt_range.filter _)
    simp only [List.mem_filter, List.mem_range, beq_iff_eq] at hk hi
    have := rank_inj l hk.1 hi.1 (by omega)
    omega
  · simp only [List.mem_filter, List.mem_range, beq_iff_eq] at hk hi
    by_cases e : k = i
    · subst e; omega
    · rcases bef_total l e with h1 | h1
      · exact h1
      · have := rank_mono l hi.1 h1; omega
theorem zip_range (l : List Prt) : l.zipIdx = (List.range l.length).map fun i => (nth l i, i) := by
  apply List.ext_getElem?
  intro j
  rw [List.getElem?_zipIdx, List.getElem?_map]
  by_cases h : j < l.length
  · rw [List.getElem?_range h, List.getElem?_eq_getElem h]
    simp [nth, List.getElem?_eq_getElem h]
  · rw [List.getElem?_eq_none (by omega), List.getElem?_eq_none (by simp; omega)]; rfl
theorem want_ordered (l : List Prt) : Ordered l (wantL l) := by
  have hn : (places l).Nodup := (places_ahead l).imp (fun {k i} h e => by subst e; exact ahead_asymm ((bef_iff l k k).1 h) ((bef_iff l k k).1 h))
  have hp : (places l).Perm (List.range l.length) := (List.perm_ext_iff_of_nodup hn List.nodup_range).2 (fun i => by rw [mem_places, List.mem_range])
  refine ⟨(places l).map fun i => (nth l i, i), ?_, ?_, ?_⟩
  · rw [zip_range]; exact hp.map _
  · rw [List.pairwise_map]
    exact (places_ahead l).imp (fun h => (bef_iff l _ _).1 h)
  · unfold wantL; rw [List.map_map]; rfl
/-- Whatever is in the stable order is what the count says. -/
theorem ordered_want {l m : List Prt} (h : Ordered l m) : m = wantL l := ordered_unique h (want_ordered l)
end Go.Proofs.YtaflpdagehocfaaDoor.Part
