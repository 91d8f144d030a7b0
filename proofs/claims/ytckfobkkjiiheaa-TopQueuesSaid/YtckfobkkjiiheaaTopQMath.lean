/- Packets of one size: deficit round robin, fair queuing and a token ring that lets one frame go each serve in the same order. Mathematics alone. No statement is proved here. -/
import Derived.Test.YtckfobkkjiiheaaRingCode
import Derived.Test.YtckfobkkjiiheaaRoundsMath
namespace Go.Proofs.Ytckfobkkjiiheaa.TopQ
open Go.Proofs.Ytckfobkkjiiheaa.RingMath Go.Proofs.Ytckfobkkjiiheaa.Ring
set_option linter.unusedVariables false

variable {f : Nat → Nat} {m : Nat} {c : Int}
/-- The queues of the first i, each with its packets, no more than T of each. -/
def qs (f : Nat → Nat) (c : Int) (T i : Nat) : List (List Int) := (List.range i).map fun k => List.replicate (min T (f k)) c
theorem qs_len (T i : Nat) : (qs f c T i).length = i := by simp [qs]
theorem qs_row {T i k : Nat} (hk : k < i) : Drr.row (qs f c T i) k = List.replicate (min T (f k)) c := by simp [qs, Drr.row, hk]
theorem qs_next (T i : Nat) : qs f c T (i + 1) = qs f c T i ++ [List.replicate (min T (f i)) c] := by
  unfold qs; rw [List.range_succ, List.map_append]; rfl
theorem qs_good (h1 : 1 ≤ c) (h20 : c ≤ 20) (hm : m ≤ 5) (h8 : ∀ k, k < m → f k ≤ 8) (T : Nat) : Drr.Good (qs f c T m) := by
  refine ⟨by rw [qs_len]; exact hm, fun l hl => ?_⟩
  unfold qs at hl
  obtain ⟨k, hk, rfl⟩ := List.mem_map.1 hl
  have := h8 k (List.mem_range.1 hk)
  refine ⟨by rw [List.length_replicate]; omega, fun x hx => ?_⟩
  have := (List.mem_replicate.1 hx).2
  omega
theorem tot_rep (c : Int) : ∀ k : Nat, Drr.tot (List.replicate k c) = c * k
  | 0 => by simp [Drr.tot]
  | k + 1 => by
    rw [List.replicate_succ]
    show c + Drr.tot (List.replicate k c) = _
    rw [tot_rep c k, Int.natCast_add, Int.mul_add]; simp; omega

-- deficit round robin
/-- The queues from i on, of n, that still wait when t of each are served. -/
def act (f : Nat → Nat) (c : Int) (t i : Nat) : Nat → List Drr.F
  | 0 => []
  | n + 1 => (if t < f i then [⟨i, List.replicate (f i - t) c, 0⟩] else []) ++ act f c t (i + 1) n
theorem act_app (t : Nat) : ∀ (a i b : Nat), act f c t i (a + b) = act f c t i a ++ act f c t (i + a) b
  | 0, i, b => by rw [Nat.zero_add, Nat.add_zero]; rfl
  | a + 1, i, b => by
    rw [show a + 1 + b = (a + b) + 1 by omega, act, act, act_app t a (i + 1) b, List.append_assoc, show i + 1 + a = i + (a + 1) by omega]
theorem act_none {t : Nat} : ∀ (n i : Nat), (∀ k, k < i + n → f k ≤ t) → act f c t i n = []
  | 0, _, _ => rfl
  | n + 1, i, h => by
    rw [act, if_neg (show ¬ t < f i by have := h i (by omega); omega), List.nil_append]
    exact act_none n (i + 1) (fun k hk => h k (by omega))
/-- What they send: from i on, n of them, in turn t. -/
def says (f : Nat → Nat) (t i : Nat) : Nat → List Nat
  | 0 => []
  | n + 1 => RingMath.part f 1 i t ++ says f t (i + 1) n
theorem says_ahead (t : Nat) : ∀ (n i : Nat), RingMath.ahead f 1 t i ++ says f t i n = RingMath.ahead f 1 t (i + n)
  | 0, i => by simp [says]
  | n + 1, i => by
    rw [says, ← List.append_assoc, ← show RingMath.ahead f 1 t (i + 1) = RingMath.ahead f 1 t i ++ RingMath.part f 1 i t from rfl, says_ahead t n (i + 1), show i + 1 + n = i + (n + 1) by omega]
theorem part_one (i t : Nat) : RingMath.part f 1 i t = if t < f i then [i] else [] := by
  unfold RingMath.part
  by_cases h : t < f i
  · rw [if_pos h, show min (f i) (t * 1 + 1) - min (f i) (t * 1) = 1 by omega]; rfl
  · rw [if_neg h, show min (f i) (t * 1 + 1) - min (f i) (t * 1) = 0 by omega]; rfl
/-- The k turns from t on. -/
def turns (f : Nat → Nat) (m t : Nat) : Nat → List Nat
  | 0 => []
  | k + 1 => says f t 0 m ++ turns f m (t + 1) k
theorem turns_order (m : Nat) : ∀ (k t : Nat), order f 1 m t ++ turns f m t k = order f 1 m (t + k)
  | 0, t => by simp [turns]
  | k + 1, t => by
    have h := says_ahead (f := f) t m 0
    rw [Nat.zero_add, show RingMath.ahead f 1 t 0 = [] from rfl, List.nil_append] at h
    rw [turns, ← List.append_assoc, h, ← show order f 1 m (t + 1) = order f 1 m t ++ RingMath.ahead f 1 t m from rfl, turns_order m k (t + 1), show t + 1 + k = t + (k + 1) by omega]
theorem serve_rep (hc : 1 ≤ c) (k : Nat) : Drr.serve (List.replicate (k + 1) c) (0 + c) = 1 := by
  rw [List.replicate_succ, Drr.serve_yes (by omega), show 0 + c - c = 0 by omega]
  cases k with
  | zero => rfl
  | succ k => rw [List.replicate_succ, Drr.serve_no (by omega)]
theorem says_none {t : Nat} : ∀ (n i : Nat), (∀ k, k < i + n → f k ≤ t) → says f t i n = []
  | 0, _, _ => rfl
  | n + 1, i, h => by
    rw [says, part_one, if_neg (show ¬ t < f i by have := h i (by omega); omega), List.nil_append]
    exact says_none n (i + 1) (fun k hk => h k (by omega))
theorem drr_runs (hc : 1 ≤ c) : ∀ (k t : Nat), (∀ j, j < m → f j ≤ t + k) → ∀ (n i : Nat), i + n = m → ∃ N, Drr.Runs c N (act f c t i n ++ act f c (t + 1) 0 i) (nat (says f t i n ++ turns f m (t + 1) (k - 1))) := by
  intro k
  induction k with
  | zero =>
    intro t ht n i hi
    rw [Nat.add_zero] at ht
    rw [act_none n i (fun k hk => ht k (by omega)), act_none i 0 (fun k hk => by have := ht k (by omega); omega), says_none n i (fun k hk => ht k (by omega))]
    exact ⟨0, Drr.Runs.done⟩
  | succ k ihk =>
    intro t ht n
    induction n with
    | zero =>
      intro i hi
      obtain rfl : i = m := by omega
      obtain ⟨N, hN⟩ := ihk (t + 1) (fun j hj => by have := ht j hj; omega) i 0 (by omega)
      refine ⟨N, ?_⟩
      have e0 : act f c t i 0 = [] := rfl
      have e1 : act f c (t + 1 + 1) 0 0 = [] := rfl
      have e2 : says f t i 0 = [] := rfl
      rw [e1, List.append_nil] at hN
      rw [e0, e2, List.nil_append, List.nil_append, Nat.add_sub_cancel]
      cases k with
      | zero =>
        rw [says_none i 0 (fun k hk => by have := ht k (by omega); omega)] at hN
        exact hN
      | succ k =>
        rw [Nat.add_sub_cancel] at hN
        exact hN
    | succ n ihn =>
      intro i hi
      obtain ⟨N, hN⟩ := ihn (i + 1) (by omega)
      have e1 : act f c (t + 1) 0 (i + 1) = act f c (t + 1) 0 i ++ act f c (t + 1) i 1 := by rw [act_app, Nat.zero_add]
      rw [act, says, part_one]
      by_cases h : t < f i
      · rw [if_pos h, if_pos h]
        have es : Drr.srv c ⟨i, List.replicate (f i - t) c, 0⟩ = 1 := by
          unfold Drr.srv
          rw [show f i - t = (f i - t - 1) + 1 by omega]
          exact serve_rep hc _
        have en : Drr.next c ⟨i, List.replicate (f i - t) c, 0⟩ = ⟨i, List.replicate (f i - (t + 1)) c, 0⟩ := by
          unfold Drr.next
          rw [es]
          simp only [List.drop_replicate, List.take_replicate]
          rw [tot_rep, show min 1 (f i - t) = 1 by omega, show f i - t - 1 = f i - (t + 1) by omega]
          simp
        have ed : Drr.said c ⟨i, List.replicate (f i - t) c, 0⟩ = [(i : Int)] := by unfold Drr.said; rw [es]; rfl
        have eX : nat ([i] ++ says f t (i + 1) n ++ turns f m (t + 1) (k + 1 - 1)) = Drr.said c ⟨i, List.replicate (f i - t) c, 0⟩ ++ nat (says f t (i + 1) n ++ turns f m (t + 1) (k + 1 - 1)) := by
          rw [ed, List.append_assoc, nat_app]; rfl
        rw [eX]
        by_cases h2 : t + 1 < f i
        · refine ⟨N + 1, Drr.Runs.more ?_ ?_⟩
          · rw [en]
            intro e
            have := congrArg List.length e
            rw [List.length_replicate] at this
            simp at this
            omega
          · rw [en]
            rw [e1, act, if_pos h2, act, List.append_nil] at hN
            simpa [List.append_assoc] using hN
        · refine ⟨N + 1, Drr.Runs.fin ?_ ?_⟩
          · rw [en, show f i - (t + 1) = 0 by omega]; rfl
          · rw [e1, act, if_neg h2, act, List.append_nil, List.append_nil] at hN
            simpa [List.append_assoc] using hN
      · rw [if_neg h, if_neg h, List.nil_append, List.nil_append]
        rw [e1, act, if_neg (by omega), act, List.append_nil, List.append_nil] at hN
        exact ⟨N, hN⟩
theorem start_act {T : Nat} (hT : ∀ k, k < m → f k ≤ T) : ∀ k, k ≤ m → Drr.startTo (qs f c T m) k = act f c 0 0 k
  | 0, _ => by simp [Drr.startTo, Drr.startFrom, act]
  | k + 1, hk => by
    rw [Drr.startTo_succ (by rw [qs_len]; omega), start_act hT k (by omega), qs_row (by omega), Nat.min_eq_right (hT k (by omega)), act_app, Nat.zero_add, act]
    by_cases h : 0 < f k
    · rw [if_pos h, if_neg (fun e => by have := congrArg List.length e; rw [List.length_replicate] at this; simp at this; omega)]
      rfl
    · rw [if_neg h, show f k = 0 by omega]
      simp [act]
/-- Deficit round robin serves so. -/
theorem drr_all (hc : 1 ≤ c) {T : Nat} (hT : ∀ k, k < m → f k ≤ T) (hT1 : 1 ≤ T) : ∃ N, Drr.Runs c N (Drr.start (qs f c T m)) (nat (order f 1 m T)) := by
  obtain ⟨N, hN⟩ := drr_runs hc T 0 (fun j hj => by rw [Nat.zero_add]; exact hT j hj) m 0 (by omega)
  refine ⟨N, ?_⟩
  have e1 : Drr.start (qs f c T m) = act f c 0 0 m := by
    rw [← Drr.startTo_end, qs_len]; exact start_act hT m (Nat.le_refl _)
  have e2 : order f 1 m T = says f 0 0 m ++ turns f m (0 + 1) (T - 1) := by
    have h := turns_order (f := f) m T 0
    rw [show order f 1 m 0 = [] from rfl, List.nil_append, Nat.zero_add] at h
    rw [← h]
    obtain ⟨k, rfl⟩ : ∃ k, T = k + 1 := ⟨T - 1, by omega⟩
    rw [turns, Nat.add_sub_cancel]
  rw [e1, e2]
  rwa [show act f c (0 + 1) 0 0 = [] from rfl, List.append_nil] at hN

-- fair queuing
/-- The packets of turn T of the first i queues. -/
def trn (f : Nat → Nat) (c : Int) (T : Nat) : Nat → List Rounds.Pk
  | 0 => []
  | i + 1 => trn f c T i ++ (if T < f i then [⟨i, c, c * (T + 1 : Nat)⟩] else [])
/-- All packets of the turns ahead of T. -/
def srt (f : Nat → Nat) (c : Int) (m : Nat) : Nat → List Rounds.Pk
  | 0 => []
  | T + 1 => srt f c m T ++ trn f c T m
theorem pks_rep (k j : Nat) : Rounds.pks k 0 (List.replicate (j + 1) c) = Rounds.pks k 0 (List.replicate j c) ++ [⟨k, c, c * (j + 1 : Nat)⟩] := by
  rw [List.replicate_succ', Rounds.pks_append, tot_rep]
  simp only [Rounds.pks]
  rw [show (0 : Int) + c * (j : Int) + c = c * ((j + 1 : Nat) : Int) by rw [Int.natCast_add, Int.mul_add]; simp]
theorem allTo_qs (T m : Nat) : ∀ k, k ≤ m → Rounds.allTo (qs f c T m) k = Rounds.allP (qs f c T k)
  | 0, _ => by rw [Rounds.allTo_zero]; rfl
  | k + 1, hk => by
    rw [Rounds.allTo_succ (by rw [qs_len]; omega), allTo_qs T m k (by omega), qs_row (by omega), qs_next]
    unfold Rounds.allP
    rw [Rounds.allFrom_append, qs_len, Nat.zero_add]
    simp [Rounds.allFrom]
theorem all_next (T : Nat) : ∀ k, Rounds.allP (qs f c T (k + 1)) = Rounds.allP (qs f c T k) ++ Rounds.pks k 0 (List.replicate (min T (f k)) c) := fun k => by
  rw [qs_next]
  unfold Rounds.allP
  rw [Rounds.allFrom_append, qs_len, Nat.zero_add]
  simp [Rounds.allFrom]
/-- One turn more. -/
theorem all_turn (T : Nat) : ∀ k, (Rounds.allP (qs f c (T + 1) k)).Perm (Rounds.allP (qs f c T k) ++ trn f c T k)
  | 0 => List.Perm.refl _
  | k + 1 => by
    have ih := all_turn T k
    rw [all_next, all_next, trn]
    have e : Rounds.pks k 0 (List.replicate (min (T + 1) (f k)) c) = Rounds.pks k 0 (List.replicate (min T (f k)) c) ++ (if T < f k then [⟨k, c, c * (T + 1 : Nat)⟩] else []) := by
      by_cases h : T < f k
      · rw [if_pos h, Nat.min_eq_left (by omega), Nat.min_eq_left (by omega), pks_rep]
      · rw [if_neg h, List.append_nil, Nat.min_eq_right (by omega), Nat.min_eq_right (by omega)]
    rw [e]
    generalize (if T < f k then [(⟨k, c, c * (T + 1 : Nat)⟩ : Rounds.Pk)] else []) = Z
    generalize Rounds.pks k 0 (List.replicate (min T (f k)) c) = Y
    refine (List.Perm.append_right (Y ++ Z) ih).trans ?_
    rw [List.append_assoc, List.append_assoc]
    refine List.Perm.append_left _ ?_
    rw [← List.append_assoc, ← List.append_assoc]
    exact List.Perm.append_right Z List.perm_append_comm
theorem srt_perm (m : Nat) : ∀ T, (srt f c m T).Perm (Rounds.allP (qs f c T m))
  | 0 => by
    have e : ∀ k, Rounds.allP (qs f c 0 k) = [] := fun k => by
      induction k with
      | zero => rfl
      | succ k ih => rw [all_next, ih, Nat.zero_min]; rfl
    rw [e]; exact List.Perm.refl _
  | T + 1 => (List.Perm.append_right _ (srt_perm m T)).trans (all_turn T m).symm
theorem mem_trn {T : Nat} {p : Rounds.Pk} : ∀ {i}, p ∈ trn f c T i → p.rnd = c * (T + 1 : Nat) ∧ ∃ k : Nat, k < i ∧ p.num = (k : Int)
  | 0, h => by simp [trn] at h
  | i + 1, h => by
    rw [trn] at h
    rcases List.mem_append.1 h with h1 | h1
    · obtain ⟨a, k, b, d⟩ := mem_trn h1
      exact ⟨a, k, by omega, d⟩
    · by_cases h2 : T < f i
      · rw [if_pos h2] at h1
        obtain rfl := List.mem_singleton.1 h1
        exact ⟨rfl, i, by omega, rfl⟩
      · rw [if_neg h2] at h1; simp at h1
theorem trn_ord (T : Nat) : ∀ i, (trn f c T i).Pairwise Rounds.Bf
  | 0 => List.Pairwise.nil
  | i + 1 => by
    rw [trn]
    refine List.pairwise_append.2 ⟨trn_ord T i, ?_, fun a ha b hb => ?_⟩
    · by_cases h2 : T < f i
      · rw [if_pos h2]; exact List.pairwise_singleton _ _
      · rw [if_neg h2]; exact List.Pairwise.nil
    · obtain ⟨h1, k, h2, h3⟩ := mem_trn ha
      by_cases h4 : T < f i
      · rw [if_pos h4] at hb
        obtain rfl := List.mem_singleton.1 hb
        exact .inr ⟨h1, by rw [h3]; show (k : Int) < (i : Int); omega⟩
      · rw [if_neg h4] at hb; simp at hb
theorem srt_ord (hc : 1 ≤ c) (m : Nat) : ∀ T, (srt f c m T).Pairwise Rounds.Bf ∧ ∀ p ∈ srt f c m T, p.rnd ≤ c * T
  | 0 => ⟨List.Pairwise.nil, fun p hp => by simp [srt] at hp⟩
  | T + 1 => by
    obtain ⟨h1, h2⟩ := srt_ord hc m T
    have e : c * ((T + 1 : Nat) : Int) = c * T + c := by rw [Int.natCast_add, Int.mul_add]; simp
    refine ⟨?_, fun p hp => ?_⟩
    · rw [srt]
      refine List.pairwise_append.2 ⟨h1, trn_ord T m, fun a ha b hb => .inl ?_⟩
      have h3 := h2 a ha
      obtain ⟨h4, _⟩ := mem_trn hb
      omega
    · rw [srt] at hp
      rcases List.mem_append.1 hp with h3 | h3
      · have := h2 p h3; omega
      · obtain ⟨h4, _⟩ := mem_trn h3; omega
/-- Fair queuing serves so. -/
theorem rounds_all (hc : 1 ≤ c) (T : Nat) : Rounds.Srt (qs f c T m) (srt f c m T) := ⟨srt_perm m T, (srt_ord hc m T).1⟩
theorem nums_trn (T : Nat) : ∀ i, Rounds.nums (trn f c T i) = nat (RingMath.ahead f 1 T i)
  | 0 => rfl
  | i + 1 => by
    rw [trn, RingMath.ahead, nat_app, ← nums_trn T i, part_one]
    unfold Rounds.nums
    rw [List.map_append]
    congr 1
    by_cases h : T < f i
    · rw [if_pos h, if_pos h]; rfl
    · rw [if_neg h, if_neg h]; rfl
theorem nums_all : ∀ T, Rounds.nums (srt f c m T) = nat (order f 1 m T)
  | 0 => rfl
  | T + 1 => by
    rw [srt, order, nat_app, ← nums_all T, ← nums_trn]
    unfold Rounds.nums
    rw [List.map_append]
end Go.Proofs.Ytckfobkkjiiheaa.TopQ
