/- Fair queuing by finish rounds: the mathematics, without the program. No statement is proved here. -/
import Derived.Test.YtckfobkkjiiheaaDrrMath
namespace Go.Proofs.Ytckfobkkjiiheaa.Rounds
open Go.Proofs.Ytckfobkkjiiheaa.Drr
set_option linter.unusedVariables false

/-- A packet: its queue, its size, its round. -/
structure Pk where
  num : Int
  size : Int
  rnd : Int
/-- The packets of a queue behind the sum s. -/
def pks (k : Nat) (s : Int) : List Int → List Pk
  | [] => []
  | x :: l => ⟨k, x, s + x⟩ :: pks k (s + x) l
theorem pks_append (k : Nat) : ∀ (a b : List Int) (s : Int), pks k s (a ++ b) = pks k s a ++ pks k (s + tot a) b
  | [], b, s => by simp [pks, tot]
  | x :: a, b, s => by
    simp only [List.cons_append, pks, tot]
    rw [pks_append k a b (s + x), show s + x + tot a = s + (x + tot a) by omega]
theorem pks_len (k : Nat) : ∀ (l : List Int) (s : Int), (pks k s l).length = l.length
  | [], s => rfl
  | x :: l, s => by simp only [pks, List.length_cons, pks_len k l]
theorem pks_size (k : Nat) : ∀ (l : List Int) (s : Int), (pks k s l).map Pk.size = l
  | [], s => rfl
  | x :: l, s => by simp only [pks, List.map_cons, pks_size k l]
theorem pks_num (k : Nat) : ∀ (l : List Int) (s : Int), ∀ p ∈ pks k s l, p.num = (k : Int)
  | [], s, p, h => by simp [pks] at h
  | x :: l, s, p, h => by
    simp only [pks, List.mem_cons] at h
    rcases h with rfl | h
    · rfl
    · exact pks_num k l _ p h
theorem pks_get (k : Nat) : ∀ (l : List Int) (s : Int) (j : Nat), j < l.length → (pks k s l)[j]? = some ⟨k, l[j]?.getD 0, s + tot (l.take (j + 1))⟩
  | [], s, j, h => by simp at h
  | x :: l, s, 0, h => by simp [pks, tot]
  | x :: l, s, j + 1, h => by
    simp only [pks, List.getElem?_cons_succ, List.take_succ_cons, tot]
    rw [pks_get k l (s + x) j (by simpa using h), show s + x + tot (l.take (j + 1)) = s + (x + tot (l.take (j + 1))) by omega]
theorem pks_gt (k : Nat) : ∀ (l : List Int) (s : Int), (∀ x ∈ l, 1 ≤ x) → ∀ p ∈ pks k s l, s < p.rnd
  | [], s, _, p, h => by simp [pks] at h
  | x :: l, s, hx, p, h => by
    have h1 := hx x (by simp)
    simp only [pks, List.mem_cons] at h
    rcases h with rfl | h
    · show s < s + x; omega
    · have := pks_gt k l (s + x) (fun y hy => hx y (by simp [hy])) p h
      omega
/-- One stands before another. -/
def Bf (x y : Pk) : Prop := x.rnd < y.rnd ∨ x.rnd = y.rnd ∧ x.num < y.num
theorem pks_bf (k : Nat) : ∀ (l : List Int) (s : Int), (∀ x ∈ l, 1 ≤ x) → (pks k s l).Pairwise Bf
  | [], s, _ => List.Pairwise.nil
  | x :: l, s, hx => by
    refine List.pairwise_cons.2 ⟨fun p hp => .inl ?_, pks_bf k l (s + x) (fun y hy => hx y (by simp [hy]))⟩
    exact pks_gt k l (s + x) (fun y hy => hx y (by simp [hy])) p hp
/-- All packets, queue by queue. -/
def allFrom (k : Nat) : List (List Int) → List Pk
  | [] => []
  | l :: ls => pks k 0 l ++ allFrom (k + 1) ls
def allP (qs : List (List Int)) : List Pk := allFrom 0 qs
theorem allFrom_append : ∀ (a b : List (List Int)) (k : Nat), allFrom k (a ++ b) = allFrom k a ++ allFrom (k + a.length) b
  | [], b, k => by simp [allFrom]
  | l :: a, b, k => by
    simp only [List.cons_append, allFrom, List.length_cons]
    rw [allFrom_append a b (k + 1), show k + 1 + a.length = k + (a.length + 1) by omega, List.append_assoc]
def allTo (qs : List (List Int)) (k : Nat) : List Pk := allFrom 0 (qs.take k)
theorem allTo_zero (qs : List (List Int)) : allTo qs 0 = [] := by simp [allTo, allFrom]
theorem allTo_succ {qs : List (List Int)} {k : Nat} (hk : k < qs.length) : allTo qs (k + 1) = allTo qs k ++ pks k 0 (row qs k) := by
  unfold allTo row
  rw [List.take_add_one, List.getElem?_eq_getElem hk, allFrom_append]
  simp only [Option.toList, List.length_take, Nat.zero_add, Option.getD, allFrom, List.append_nil]
  rw [Nat.min_eq_left (by omega)]
theorem allTo_end (qs : List (List Int)) : allTo qs qs.length = allP qs := by unfold allTo allP; rw [List.take_length]
theorem allFrom_num : ∀ (ls : List (List Int)) (k : Nat), ∀ p ∈ allFrom k ls, ∃ j : Nat, k ≤ j ∧ j < k + ls.length ∧ p.num = (j : Int)
  | [], k, p, h => by simp [allFrom] at h
  | l :: ls, k, p, h => by
    simp only [allFrom, List.mem_append] at h
    rcases h with h | h
    · exact ⟨k, Nat.le_refl _, by simp, pks_num k l 0 p h⟩
    · obtain ⟨j, h1, h2, h3⟩ := allFrom_num ls (k + 1) p h
      exact ⟨j, by omega, by rw [List.length_cons]; omega, h3⟩
theorem allFrom_len : ∀ (ls : List (List Int)) (k : Nat), (allFrom k ls).length = things ls
  | [], k => by simp [allFrom, things]
  | l :: ls, k => by
    have ih := allFrom_len ls (k + 1)
    simp only [allFrom, List.length_append, pks_len, things, List.map_cons, List.sum_cons] at ih ⊢
    rw [ih]
/-- Of one queue. -/
def sel (k : Nat) (m : List Pk) : List Pk := m.filter fun p => p.num == (k : Int)
theorem sel_append (k : Nat) (a b : List Pk) : sel k (a ++ b) = sel k a ++ sel k b := List.filter_append ..
theorem sel_all {k : Nat} {m : List Pk} (h : ∀ p ∈ m, p.num = (k : Int)) : sel k m = m := List.filter_eq_self.2 (fun p hp => by simp [h p hp])
theorem sel_none {k : Nat} {m : List Pk} (h : ∀ p ∈ m, p.num ≠ (k : Int)) : sel k m = [] := List.filter_eq_nil_iff.2 (fun p hp => by simp [h p hp])
theorem sel_from : ∀ (ls : List (List Int)) (k j : Nat), sel (k + j) (allFrom k ls) = pks (k + j) 0 (ls[j]?.getD [])
  | [], k, j => by simp [sel, allFrom, pks]
  | l :: ls, k, 0 => by
    simp only [allFrom, sel_append, Nat.add_zero, List.getElem?_cons_zero, Option.getD_some]
    rw [sel_all (pks_num k l 0), sel_none (fun p hp => by
      obtain ⟨j, h1, _, h3⟩ := allFrom_num ls (k + 1) p hp
      omega), List.append_nil]
  | l :: ls, k, j + 1 => by
    simp only [allFrom, sel_append, List.getElem?_cons_succ]
    rw [sel_none (fun p hp => by have := pks_num k l 0 p hp; omega), List.nil_append, show k + (j + 1) = k + 1 + j by omega]
    exact sel_from ls (k + 1) j
theorem sel_allP (qs : List (List Int)) (k : Nat) : sel k (allP qs) = pks k 0 (row qs k) := by
  have := sel_from qs 0 k
  rw [Nat.zero_add] at this
  exact this
def Diff (x y : Pk) : Prop := x.rnd ≠ y.rnd ∨ x.num ≠ y.num
theorem Diff.symm {x y : Pk} (h : Diff x y) : Diff y x := h.elim (fun h => .inl (Ne.symm h)) (fun h => .inr (Ne.symm h))
theorem allFrom_diff : ∀ (ls : List (List Int)) (k : Nat), (∀ l ∈ ls, ∀ x ∈ l, 1 ≤ x) → (allFrom k ls).Pairwise Diff
  | [], k, _ => List.Pairwise.nil
  | l :: ls, k, h => by
    unfold allFrom
    refine List.pairwise_append.2 ⟨(pks_bf k l 0 (h l (by simp))).imp_of_mem (fun {x y} hx hy hb => .inl ?_), allFrom_diff ls (k + 1) (fun m hm => h m (by simp [hm])), fun x hx y hy => .inr ?_⟩
    · have h1 := pks_num k l 0 x hx
      have h2 := pks_num k l 0 y hy
      rcases hb with hb | ⟨_, hb⟩ <;> omega
    · have h1 := pks_num k l 0 x hx
      obtain ⟨j, h2, _, h3⟩ := allFrom_num ls (k + 1) y hy
      omega
/-- The packets in order of service. -/
structure Srt (qs : List (List Int)) (m : List Pk) : Prop where
  perm : m.Perm (allP qs)
  ord : m.Pairwise Bf
theorem good_one {qs : List (List Int)} (hg : Drr.Good qs) : ∀ l ∈ qs, ∀ x ∈ l, 1 ≤ x := fun l hl x hx => ((hg.2 l hl).2 x hx).1
theorem Srt.of {qs : List (List Int)} (hg : Drr.Good qs) {m : List Pk} (hp : m.Perm (allP qs)) (ho : m.Pairwise fun x y => ¬ Bf y x) : Srt qs m := by
  have hd : m.Pairwise Diff := hp.symm.pairwise (allFrom_diff qs 0 (good_one hg)) Diff.symm
  refine ⟨hp, ?_⟩
  refine (List.Pairwise.and ho hd).imp (fun {x y} h => ?_)
  obtain ⟨h1, h2⟩ := h
  unfold Bf at h1 ⊢
  rcases h2 with h2 | h2 <;> omega
theorem Srt.uniq {qs : List (List Int)} {m m' : List Pk} (h : Srt qs m) (h' : Srt qs m') : m = m' :=
  List.Perm.eq_of_pairwise (le := Bf) (fun a b _ _ h1 h2 => by unfold Bf at h1 h2; omega) h.ord h'.ord (h.perm.trans h'.perm.symm)
theorem Srt.len {qs : List (List Int)} {m : List Pk} (h : Srt qs m) : m.length = things qs := by rw [h.perm.length_eq]; exact allFrom_len qs 0
theorem Srt.num {qs : List (List Int)} {m : List Pk} (h : Srt qs m) : ∀ p ∈ m, ∃ k : Nat, k < qs.length ∧ p.num = (k : Int) := fun p hp => by
  obtain ⟨j, _, h2, h3⟩ := allFrom_num qs 0 p (h.perm.mem_iff.1 hp)
  exact ⟨j, by omega, h3⟩
theorem Srt.sel {qs : List (List Int)} (hg : Drr.Good qs) {m : List Pk} (h : Srt qs m) (k : Nat) : Rounds.sel k m = pks k 0 (row qs k) := by
  refine List.Perm.eq_of_pairwise (le := Bf) (fun a b _ _ h1 h2 => by unfold Bf at h1 h2; omega) (h.ord.filter _) (pks_bf k _ 0 (fun x hx => ((hg.row k).2 x hx).1)) ?_
  rw [← sel_allP]
  exact h.perm.filter _
/-- The order that Run tells. -/
def nums (m : List Pk) : List Int := m.map Pk.num
theorem nums_count (m : List Pk) (k : Nat) : (nums m).count (k : Int) = (Rounds.sel k m).length := by
  induction m with
  | nil => rfl
  | cons p m ih =>
    simp only [nums, List.map_cons, List.count_cons, Rounds.sel, List.filter_cons] at ih ⊢
    rw [ih]
    by_cases e : p.num = (k : Int)
    · rw [if_pos (by simp [e]), if_pos (by simp [e]), List.length_cons]
    · rw [if_neg (by simp [e]), if_neg (by simp [e]), Nat.add_zero]
theorem nums_take (m : List Pk) (j : Nat) : nums (m.take j) = (nums m).take j := by unfold nums; rw [List.map_take]
theorem sel_take (k : Nat) (m : List Pk) (j : Nat) : Rounds.sel k (m.take j) = (Rounds.sel k m).take (Rounds.sel k (m.take j)).length := by
  have h : Rounds.sel k m = Rounds.sel k (m.take j) ++ Rounds.sel k (m.drop j) := by rw [← sel_append, List.take_append_drop]
  rw [h, List.take_left']
  rfl
theorem sel_at {k : Nat} {m : List Pk} {j : Nat} {p : Pk} (hp : m[j]? = some p) (hk : p.num = (k : Int)) : (Rounds.sel k m)[(Rounds.sel k (m.take j)).length]? = some p := by
  obtain ⟨hj, rfl⟩ := List.getElem?_eq_some_iff.1 hp
  have h : Rounds.sel k m = Rounds.sel k (m.take j) ++ Rounds.sel k (m.drop j) := by rw [← sel_append, List.take_append_drop]
  rw [List.drop_eq_getElem_cons hj] at h
  have e : Rounds.sel k (m[j] :: m.drop (j + 1)) = m[j] :: Rounds.sel k (m.drop (j + 1)) := by
    unfold Rounds.sel
    rw [List.filter_cons, if_pos (by simp [hk])]
  rw [h, e, List.getElem?_append_right (Nat.le_refl _), Nat.sub_self]
  rfl
/-- The packet at a place of the order: which one of its queue it is. -/
theorem Srt.at {qs : List (List Int)} (hg : Drr.Good qs) {m : List Pk} (h : Srt qs m) {j k : Nat} {p : Pk} (hp : m[j]? = some p) (hk : p.num = (k : Int)) :
    ((nums m).take j).count (k : Int) < (row qs k).length ∧ p.size = (row qs k)[((nums m).take j).count (k : Int)]?.getD 0 ∧ p.rnd = tot ((row qs k).take (((nums m).take j).count (k : Int) + 1)) := by
  have h1 := sel_at hp hk
  rw [h.sel hg k, ← nums_count, nums_take] at h1
  have h2 : ((nums m).take j).count (k : Int) < (row qs k).length := by
    have := (List.getElem?_eq_some_iff.1 h1).1
    rwa [pks_len] at this
  rw [pks_get k _ 0 _ h2] at h1
  injection h1 with h1
  subst h1
  exact ⟨h2, rfl, by simp⟩
theorem Srt.count {qs : List (List Int)} (hg : Drr.Good qs) {m : List Pk} (h : Srt qs m) (k : Nat) : (nums m).count (k : Int) = (row qs k).length := by
  rw [nums_count, h.sel hg, pks_len]

/-- The least of what a round asks for and what the queues have, over the first n queues. -/
def bit (qs : List (List Int)) (r : Int) : Nat → Int
  | 0 => 0
  | n + 1 => bit qs r n + min r (tot (row qs n))
theorem bit_five {qs : List (List Int)} {r : Int} (hr : 0 ≤ r) : ∀ (n : Nat), qs.length ≤ n → bit qs r n = bit qs r qs.length
  | 0, h => by rw [show qs.length = 0 by omega]
  | n + 1, h => by
    by_cases e : qs.length = n + 1
    · rw [e]
    · have ih := bit_five (qs := qs) hr n (by omega)
      show bit qs r n + min r (tot (row qs n)) = _
      rw [ih, row_out (qs := qs) (k := n) (by omega)]
      simp only [tot]
      omega
theorem bit_mono {qs : List (List Int)} {r s : Int} (h : r ≤ s) : ∀ n : Nat, bit qs r n ≤ bit qs s n
  | 0 => Int.le_refl _
  | n + 1 => by
    have := bit_mono (qs := qs) h n
    show bit qs r n + min r _ ≤ bit qs s n + min s _
    omega
theorem bit_in {qs : List (List Int)} (hg : Drr.Good qs) {r : Int} (hr : 0 ≤ r) (n : Nat) : 0 ≤ bit qs r n ∧ bit qs r n ≤ 160 * n := by
  induction n with
  | zero => exact ⟨Int.le_refl _, by simp [bit]⟩
  | succ n ih =>
    have h := hg.row n
    have h2 := tot_nonneg (fun x hx => (h.2 x hx).1)
    have h3 := tot_le (M := 20) (fun x hx => (h.2 x hx).2)
    have h4 := h.1
    show 0 ≤ bit qs r n + min r _ ∧ bit qs r n + min r _ ≤ _
    omega
/-- When each is finished, one after the other. -/
def ends (l : List Int) : List Int := (List.range l.length).map fun i => tot (l.take (i + 1))
theorem ends_len (l : List Int) : (ends l).length = l.length := by simp [ends]
theorem ends_get {l : List Int} {i : Nat} (h : i < l.length) : (ends l)[i]?.getD 0 = tot (l.take (i + 1)) := by simp [ends, h]
theorem ends_take {l : List Int} {k : Nat} (h : k < l.length) : ends (l.take (k + 1)) = ends (l.take k) ++ [tot (l.take (k + 1))] := by
  unfold ends
  rw [List.length_take, List.length_take, Nat.min_eq_left (by omega), Nat.min_eq_left (by omega), List.range_succ, List.map_append]
  congr 1
  · refine List.map_congr_left fun i hi => ?_
    have : i < k := List.mem_range.1 hi
    rw [List.take_take, List.take_take, Nat.min_eq_left (by omega), Nat.min_eq_left (by omega)]
  · simp [List.take_take]
def sizes (m : List Pk) : List Int := m.map Pk.size
def bits (qs : List (List Int)) (n : Nat) (m : List Pk) : List Int := m.map fun p => bit qs p.rnd n
/-- What of a queue is among some packets. -/
def part (m : List Pk) (k : Nat) : Int := tot (sizes (sel k m))
theorem part_one (m : List Pk) (p : Pk) (k j : Nat) (hp : p.num = (k : Int)) : part (m ++ [p]) j = part m j + if j = k then p.size else 0 := by
  unfold part sizes
  rw [sel_append, List.map_append, tot_append]
  congr 1
  by_cases e : j = k
  · subst e
    rw [if_pos rfl, sel_all (fun q hq => by rw [List.mem_singleton.1 hq]; exact hp)]
    simp [tot]
  · rw [if_neg e, sel_none (fun q hq => by rw [List.mem_singleton.1 hq, hp]; omega)]
    rfl
theorem Srt.whole {qs : List (List Int)} (hg : Drr.Good qs) {m : List Pk} (h : Srt qs m) (k : Nat) : part m k = tot (row qs k) := by
  unfold part sizes
  rw [h.sel hg, pks_size]
def parts (m : List Pk) : Nat → Int
  | 0 => 0
  | n + 1 => parts m n + part m n
theorem parts_nil : ∀ n : Nat, parts [] n = 0
  | 0 => rfl
  | n + 1 => by
    show parts [] n + part [] n = 0
    rw [parts_nil n]; rfl
theorem parts_one (m : List Pk) (p : Pk) (k : Nat) (hp : p.num = (k : Int)) : ∀ n : Nat, parts (m ++ [p]) n = parts m n + if k < n then p.size else 0
  | 0 => by simp [parts]
  | n + 1 => by
    show parts (m ++ [p]) n + part (m ++ [p]) n = parts m n + part m n + _
    rw [parts_one m p k hp n, part_one m p k n hp]
    split <;> split <;> split <;> omega
theorem parts_all {n : Nat} : ∀ m : List Pk, (∀ p ∈ m, ∃ k : Nat, k < n ∧ p.num = (k : Int)) → tot (sizes m) = parts m n := by
  intro m
  suffices h : ∀ a b : List Pk, (∀ p ∈ a, ∃ k : Nat, k < n ∧ p.num = (k : Int)) → tot (sizes b) = parts b n → tot (sizes (b ++ a)) = parts (b ++ a) n from fun hm => by
    have := h m [] hm (by rw [parts_nil]; rfl)
    simpa using this
  intro a
  induction a with
  | nil => intro b _ h; simpa using h
  | cons p a ih =>
    intro b hm h
    obtain ⟨k, hk, hp⟩ := hm p (by simp)
    have := ih (b ++ [p]) (fun q hq => hm q (by simp [hq])) (by
      rw [parts_one b p k hp, if_pos hk, ← h]
      unfold sizes
      rw [List.map_append, tot_append]
      simp [tot])
    simpa using this
/-- NOTHING ENDS LATER THAN BIT BY BIT. -/
theorem Srt.soon {qs : List (List Int)} (hg : Drr.Good qs) {m : List Pk} (h : Srt qs m) {i : Nat} {p : Pk} (hp : m[i]? = some p) : tot ((sizes m).take (i + 1)) ≤ bit qs p.rnd qs.length := by
  have e : (sizes m).take (i + 1) = sizes (m.take (i + 1)) := by unfold sizes; rw [List.map_take]
  rw [e, parts_all (n := qs.length) _ (fun q hq => h.num q (List.mem_of_mem_take hq))]
  have hpm : p ∈ m := List.mem_of_getElem? hp
  obtain ⟨hi, hpi⟩ := List.getElem?_eq_some_iff.1 hp
  have hr : ∀ q ∈ m.take (i + 1), q.rnd ≤ p.rnd := fun q hq => by
    obtain ⟨j, hj, rfl⟩ := List.getElem_of_mem hq
    rw [List.length_take] at hj
    rw [List.getElem_take]
    by_cases e : j = i
    · subst e; rw [hpi]; exact Int.le_refl _
    · have := List.pairwise_iff_getElem.1 h.ord j i (by omega) hi (by omega)
      rw [hpi] at this
      unfold Bf at this
      omega
  have h0 : 0 ≤ p.rnd := by
    obtain ⟨k, _, hk⟩ := h.num p hpm
    rw [(h.at hg hp hk).2.2]
    exact tot_nonneg (fun x hx => ((hg.row k).2 x (List.mem_of_mem_take hx)).1)
  have key : ∀ k : Nat, part (m.take (i + 1)) k ≤ min p.rnd (tot (row qs k)) := fun k => by
    have hs := sel_take k m (i + 1)
    rw [h.sel hg] at hs
    obtain ⟨c, hc⟩ : ∃ c, (Rounds.sel k (m.take (i + 1))).length = c := ⟨_, rfl⟩
    rw [hc] at hs
    have hle : c ≤ (row qs k).length := by
      have h1 : (Rounds.sel k (m.take (i + 1))).length ≤ (pks k 0 (row qs k)).length := by rw [hs, List.length_take]; omega
      rw [pks_len, hc] at h1
      exact h1
    have hsz : sizes (Rounds.sel k (m.take (i + 1))) = (row qs k).take c := by
      rw [hs]; unfold sizes
      rw [List.map_take, pks_size]
    have h1 : part (m.take (i + 1)) k = tot ((row qs k).take c) := by unfold part; rw [hsz]
    have hpos : ∀ x ∈ row qs k, 1 ≤ x := fun x hx => ((hg.row k).2 x hx).1
    have h2 := tot_mono hpos hle
    rw [List.take_length] at h2
    have h3 : tot ((row qs k).take c) ≤ p.rnd := by
      rcases c with _|c
      · simpa [tot] using h0
      · have hg1 := pks_get k (row qs k) 0 c (by omega)
        have hm : (⟨k, (row qs k)[c]?.getD 0, 0 + tot ((row qs k).take (c + 1))⟩ : Pk) ∈ Rounds.sel k (m.take (i + 1)) := by
          rw [hs]
          refine List.mem_of_getElem? (i := c) ?_
          rw [List.getElem?_take, if_pos (by omega), hg1]
        have := hr _ (List.mem_filter.1 hm).1
        simp only at this
        omega
    rw [h1]
    omega
  have all : ∀ n : Nat, parts (m.take (i + 1)) n ≤ bit qs p.rnd n := by
    intro n
    induction n with
    | zero => exact Int.le_refl _
    | succ n ih =>
      have := key n
      show parts _ n + part _ n ≤ bit qs p.rnd n + min _ _
      omega
  exact all _

/- What is best: the document's way to find the next one. -/
/-- What queue k would finish next, where o is served. -/
def val (qs : List (List Int)) (o : List Int) (k : Nat) : Int := tot ((row qs k).take (o.count (k : Int) + 1))
/-- Behind j packets the next one is the least. -/
theorem Srt.best {qs : List (List Int)} (hg : Drr.Good qs) {m : List Pk} (h : Srt qs m) {j b : Nat} {p : Pk} (hp : m[j]? = some p) (hb : p.num = (b : Int)) (k : Nat)
    (hk : ((nums m).take j).count (k : Int) < (row qs k).length) (hne : k ≠ b) : p.rnd < val qs ((nums m).take j) k ∨ p.rnd = val qs ((nums m).take j) k ∧ b < k := by
  obtain ⟨hj, hpj⟩ := List.getElem?_eq_some_iff.1 hp
  have hs : Rounds.sel k m = Rounds.sel k (m.take j) ++ Rounds.sel k (m.drop j) := by rw [← sel_append, List.take_append_drop]
  rw [h.sel hg] at hs
  obtain ⟨c, hc⟩ : ∃ c, ((nums m).take j).count (k : Int) = c := ⟨_, rfl⟩
  have hc2 : (Rounds.sel k (m.take j)).length = c := by rw [← nums_count, nums_take, hc]
  rw [hc] at hk
  have hg1 := pks_get k (row qs k) 0 c hk
  rw [hs, List.getElem?_append_right (by omega), hc2, Nat.sub_self] at hg1
  have hm : (⟨k, (row qs k)[c]?.getD 0, 0 + tot ((row qs k).take (c + 1))⟩ : Pk) ∈ m.drop j := (List.mem_filter.1 (List.mem_of_getElem? hg1)).1
  rw [List.drop_eq_getElem_cons hj, hpj] at hm
  rcases List.mem_cons.1 hm with hm | hm
  · have : p.num = (k : Int) := by rw [← hm]
    omega
  · obtain ⟨t, ht, hte⟩ := List.getElem_of_mem hm
    rw [List.getElem_drop] at hte
    rw [List.length_drop] at ht
    have := List.pairwise_iff_getElem.1 h.ord j (j + 1 + t) hj (by omega) (by omega)
    rw [hte, hpj] at this
    unfold Bf at this
    unfold val
    rw [hc]
    simp only at this
    omega
theorem Srt.val {qs : List (List Int)} (hg : Drr.Good qs) {m : List Pk} (h : Srt qs m) {j b : Nat} {p : Pk} (hp : m[j]? = some p) (hb : p.num = (b : Int)) : p.rnd = Rounds.val qs ((nums m).take j) b := (h.at hg hp hb).2.2
/-- There is an order of service. -/
theorem Srt.some {qs : List (List Int)} (hg : Drr.Good qs) : ∃ m, Srt qs m := by
  let le : Pk → Pk → Bool := fun x y => decide (x.rnd < y.rnd ∨ x.rnd = y.rnd ∧ x.num ≤ y.num)
  refine ⟨(allP qs).mergeSort le, Srt.of hg (List.mergeSort_perm _ _) ?_⟩
  refine (List.pairwise_mergeSort (le := le) (fun a b c h1 h2 => ?_) (fun a b => ?_) (allP qs)).imp (fun {x y} h => ?_)
  · simp only [le, decide_eq_true_iff] at *; omega
  · simp only [le, Bool.or_eq_true, decide_eq_true_iff]; omega
  · simp only [le, decide_eq_true_iff] at h
    unfold Bf
    omega
end Go.Proofs.Ytckfobkkjiiheaa.Rounds
