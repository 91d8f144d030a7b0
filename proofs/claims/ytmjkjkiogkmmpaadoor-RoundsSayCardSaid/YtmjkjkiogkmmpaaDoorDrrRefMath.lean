/- The document's deficit round robin, turn by turn, and the rounds of the queues. No statement is proved here. -/
import Derived.Test.YtmjkjkiogkmmpaaDoorDrrMath
namespace Go.Proofs.YtmjkjkiogkmmpaaDoor.Drr
set_option linter.unusedVariables false

def upF {α : Type} (f : Nat → α) (i : Nat) (x : α) (k : Nat) : α := if k = i then x else f k
theorem upF_same {α : Type} (f : Nat → α) (i : Nat) (x : α) : upF f i x i = x := if_pos rfl
theorem upF_other {α : Type} (f : Nat → α) {i k : Nat} (x : α) (h : k ≠ i) : upF f i x k = f k := if_neg h
/-- A queue as the document has it: where it is, what it may have. -/
def fl (ls : List (List Int)) (a : Nat → Nat) (c : Nat → Int) (k : Nat) : F := ⟨k, (row ls k).drop (a k), c k⟩
/-- Those of some queues that have something. -/
def livs (ls : List (List Int)) (a : Nat → Nat) (c : Nat → Int) : List Nat → List F
  | [] => []
  | k :: ks => if (row ls k).drop (a k) = [] then livs ls a c ks else fl ls a c k :: livs ls a c ks
theorem livs_append (ls : List (List Int)) (a : Nat → Nat) (c : Nat → Int) : ∀ x y : List Nat, livs ls a c (x ++ y) = livs ls a c x ++ livs ls a c y
  | [], y => rfl
  | k :: x, y => by
    simp only [List.cons_append, livs, livs_append ls a c x y]
    split <;> simp
theorem livs_up {ls : List (List Int)} (a : Nat → Nat) (c : Nat → Int) (i x : Nat) (y : Int) : ∀ ks : List Nat, i ∉ ks → livs ls (upF a i x) (upF c i y) ks = livs ls a c ks
  | [], _ => rfl
  | k :: ks, h => by
    have hk : k ≠ i := fun e => h (by rw [e]; simp)
    have ih := livs_up (ls := ls) a c i x y ks (fun hm => h (List.mem_cons_of_mem _ hm))
    simp only [livs, fl, upF_other _ _ hk, ih]
/-- The round when queue i is at hand. -/
def Qu (ls : List (List Int)) (n : Nat) (a : Nat → Nat) (c : Nat → Int) (i : Nat) : List F := livs ls a c (List.range' i (n - i)) ++ livs ls a c (List.range i)
theorem range_from {n i : Nat} (h : i < n) : List.range' i (n - i) = i :: List.range' (i + 1) (n - (i + 1)) := by
  obtain ⟨d, hd⟩ : ∃ d, n - i = d + 1 := ⟨n - i - 1, by omega⟩
  rw [hd, show n - (i + 1) = d by omega]; rfl
theorem qu_skip {ls : List (List Int)} {n i : Nat} {a : Nat → Nat} {c : Nat → Int} (h : i < n) (hr : (row ls i).drop (a i) = []) : Qu ls n a c (i + 1) = Qu ls n a c i := by
  unfold Qu
  rw [range_from h, List.range_succ, livs_append]
  simp only [livs, if_pos hr, List.append_nil]
theorem qu_end (ls : List (List Int)) (n : Nat) (a : Nat → Nat) (c : Nat → Int) : Qu ls n a c n = Qu ls n a c 0 := by
  unfold Qu
  rw [Nat.sub_self, Nat.sub_zero, List.range'_zero, List.range_zero, List.range_eq_range']
  simp [livs]
theorem qu_step {ls : List (List Int)} {n i g : Nat} {a : Nat → Nat} {c : Nat → Int} {Q : Int} {X : List Int} (h : i < n) (hr : (row ls i).drop (a i) ≠ []) (hR : Runs Q g (Qu ls n a c i) X) (k : Nat) (hk : serve ((row ls i).drop (a i)) (c i + Q) = k) :
    ∃ g' Y, g = g' + 1 ∧ X = List.replicate k (i : Int) ++ Y ∧ Runs Q g' (Qu ls n (upF a i (a i + k)) (upF c i (c i + Q - tot (((row ls i).drop (a i)).take k))) (i + 1)) Y := by
  have h1 : i ∉ List.range' (i + 1) (n - (i + 1)) := by simp [List.mem_range']; omega
  have h2 : i ∉ List.range i := by simp
  have e : Qu ls n a c i = fl ls a c i :: (livs ls a c (List.range' (i + 1) (n - (i + 1))) ++ livs ls a c (List.range i)) := by
    unfold Qu
    rw [range_from h]
    simp only [livs, if_neg hr, List.cons_append]
  rw [e] at hR
  obtain ⟨g', Y, hg, hX, hcase⟩ := runs_cons hR
  have hs : srv Q (fl ls a c i) = k := hk
  have hn : next Q (fl ls a c i) = fl ls (upF a i (a i + k)) (upF c i (c i + Q - tot (((row ls i).drop (a i)).take k))) i := by
    unfold next
    rw [hs]
    unfold fl
    rw [upF_same, upF_same, List.drop_drop]
  refine ⟨g', Y, hg, by rw [hX]; unfold said; rw [hs]; rfl, ?_⟩
  unfold Qu
  rw [List.range_succ, livs_append, livs_up a c i _ _ _ h1, livs_up a c i _ _ _ h2]
  rcases hcase with ⟨h3, h4⟩ | ⟨h3, h4⟩
  · rw [hn] at h3
    rw [show livs ls (upF a i (a i + k)) (upF c i (c i + Q - tot (((row ls i).drop (a i)).take k))) [i] = [] by simp only [livs]; exact if_pos h3, List.append_nil]
    exact h4
  · rw [hn] at h3 h4
    rw [show livs ls (upF a i (a i + k)) (upF c i (c i + Q - tot (((row ls i).drop (a i)).take k))) [i] = [fl ls (upF a i (a i + k)) (upF c i (c i + Q - tot (((row ls i).drop (a i)).take k))) i] by simp only [livs]; exact if_neg h3, ← List.append_assoc]
    exact h4
theorem livs_zero (ls : List (List Int)) : ∀ (l : List (List Int)) (k : Nat), (∀ j, j < l.length → row ls (k + j) = l[j]?.getD []) → livs ls (fun _ => 0) (fun _ => 0) (List.range' k l.length) = startFrom k l
  | [], k, _ => rfl
  | x :: l, k, h => by
    have h0 : row ls k = x := h 0 (by simp)
    have ih := livs_zero ls l (k + 1) (fun j hj => by
      have := h (j + 1) (by simpa using hj)
      rw [show k + 1 + j = k + (j + 1) by omega, this]; rfl)
    rw [List.length_cons, List.range'_succ]
    simp only [livs, startFrom, List.drop_zero, h0, ih, fl]
theorem qu_start (ls : List (List Int)) : Qu ls ls.length (fun _ => 0) (fun _ => 0) 0 = start ls := by
  unfold Qu start
  rw [Nat.sub_zero, livs_zero ls ls 0 (fun j _ => by rw [Nat.zero_add]; rfl)]
  simp [livs]
theorem livs_none {ls : List (List Int)} {a : Nat → Nat} {c : Nat → Int} : ∀ {ks : List Nat}, (∀ k ∈ ks, (row ls k).drop (a k) = []) → livs ls a c ks = []
  | [], _ => rfl
  | k :: ks, h => by
    simp only [livs, if_pos (h k (by simp))]
    exact livs_none (fun j hj => h j (by simp [hj]))
/-- What holds of the document's numbers. -/
structure Dok (ls : List (List Int)) (a : Nat → Nat) (c : Nat → Int) : Prop where
  up : ∀ k, a k ≤ (row ls k).length
  num : ∀ k, 0 ≤ c k ∧ c k ≤ 40
  ok : ∀ k, (row ls k).drop (a k) ≠ [] → Ok (fl ls a c k)
theorem Dok.start {ls : List (List Int)} (hg : Good ls) : Dok ls (fun _ => 0) (fun _ => 0) :=
  ⟨fun k => Nat.zero_le _, fun k => by omega, fun k h => ⟨h, Int.le_refl _, fun x r e => by
    have := (hg.row k).2 x (by
      have e' : row ls k = x :: r := by simpa [fl] using e
      rw [e']; simp)
    show (0 : Int) < x
    omega, fun x hx => (hg.row k).2 x (by simpa [fl] using hx), by simpa [fl] using (hg.row k).1⟩⟩
theorem Dok.step {ls : List (List Int)} {a : Nat → Nat} {c : Nat → Int} (H : Dok ls a c) {Q : Int} (hQ : 1 ≤ Q ∧ Q ≤ 20) {i : Nat} (hr : (row ls i).drop (a i) ≠ []) (k : Nat) (hk : serve ((row ls i).drop (a i)) (c i + Q) = k) :
    Dok ls (upF a i (a i + k)) (upF c i (c i + Q - tot (((row ls i).drop (a i)).take k))) := by
  have hok := H.ok i hr
  have hup : c i ≤ 20 := hok.up
  have hlo : 0 ≤ c i := (H.num i).1
  have h1 := serve_le ((row ls i).drop (a i)) (c i + Q)
  have h2 := serve_tot ((row ls i).drop (a i)) (c i + Q) (by omega)
  rw [hk] at h1 h2
  have h3 := tot_nonneg (l := ((row ls i).drop (a i)).take k) (fun x hx => (hok.all x (List.mem_of_mem_take hx)).1)
  have hs : srv Q (fl ls a c i) = k := hk
  have hn : next Q (fl ls a c i) = fl ls (upF a i (a i + k)) (upF c i (c i + Q - tot (((row ls i).drop (a i)).take k))) i := by
    unfold next
    rw [hs]
    unfold fl
    rw [upF_same, upF_same, List.drop_drop]
  refine ⟨fun j => ?_, fun j => ?_, fun j hj => ?_⟩
  · by_cases e : j = i
    · subst e
      rw [upF_same]
      rw [List.length_drop] at h1
      have := H.up j
      omega
    · rw [upF_other _ _ e]; exact H.up j
  · by_cases e : j = i
    · subst e; rw [upF_same]; omega
    · rw [upF_other _ _ e]; exact H.num j
  · by_cases e : j = i
    · subst e
      rw [← hn]
      exact hok.next (by omega) (by rw [hn]; exact hj)
    · have e1 : fl ls (upF a i (a i + k)) (upF c i (c i + Q - tot (((row ls i).drop (a i)).take k))) j = fl ls a c j := by unfold fl; rw [upF_other _ _ e, upF_other _ _ e]
      rw [e1]
      rw [upF_other _ _ e] at hj
      exact H.ok j hj
end Go.Proofs.YtmjkjkiogkmmpaaDoor.Drr
