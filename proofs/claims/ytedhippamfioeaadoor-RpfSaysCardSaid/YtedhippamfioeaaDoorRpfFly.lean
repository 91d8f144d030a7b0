/- Reverse path forwarding: copies on their way, one by one. Mathematics alone. No statement is proved here. -/
import Derived.Test.YtedhippamfioeaaDoorRpfMath
namespace Go.Proofs.YtedhippamfioeaaDoor.Rpf
set_option linter.unusedVariables false

/-- Counts as a list. -/
def cps (n : Nat) (f : Nat → Nat) : List Int := (List.range n).map fun v => ((f v : Nat) : Int)
theorem cps_len (n : Nat) (f : Nat → Nat) : (cps n f).length = n := by simp [cps]
theorem cps_get (n : Nat) (f : Nat → Nat) {v : Nat} (h : v < n) : (cps n f)[v]?.getD 0 = ((f v : Nat) : Int) := by simp [cps, h]
theorem cps_congr {n : Nat} {f f' : Nat → Nat} (h : ∀ v, v < n → f v = f' v) : cps n f = cps n f' := List.map_congr_left fun v hv => by rw [h v (List.mem_range.1 hv)]
theorem cps_zero (n : Nat) : cps n (fun _ => 0) = List.replicate n 0 := by
  unfold cps
  refine List.ext_getElem (by simp) fun i h1 h2 => ?_
  simp
theorem cps_set {n : Nat} {f f' : Nat → Nat} {v : Nat} (hv : v < n) (h : f' v = f v + 1) (h' : ∀ u, u ≠ v → f' u = f u) : (cps n f).set v (((f v : Nat) : Int) + 1) = cps n f' := by
  unfold cps
  refine List.ext_getElem (by simp) fun i h1 h2 => ?_
  rw [List.getElem_set]
  by_cases e : v = i
  · subst e
    rw [if_pos rfl]
    simp [h]
  · rw [if_neg e]
    simp [h' i (fun h => e h.symm)]
end Go.Proofs.YtedhippamfioeaaDoor.Rpf
namespace Go.Proofs.YtedhippamfioeaaDoor.Rpf
open Go.Proofs.YtedhippamfioeaaDoor.Vector Go.Proofs.YtedhippamfioeaaDoor.Spf Go.Proofs.YtedhippamfioeaaDoor.Stp
set_option linter.unusedVariables false

variable {n : Nat} {ls : List Lk}
/-- A copy on its way. -/
structure Sd where
  src : Nat
  dst : Nat
/-- What p sends to all below k but x. -/
def snd (ls : List Lk) (p : Nat) (x : Int) (k : Nat) : List Sd := ((List.range k).filter fun v => decide (co ls p v ≠ 1000 ∧ (v : Int) ≠ x)).map (Sd.mk p)
theorem snd_yes {p k : Nat} {x : Int} (h : co ls p k ≠ 1000 ∧ (k : Int) ≠ x) : snd ls p x (k + 1) = snd ls p x k ++ [⟨p, k⟩] := by
  unfold snd
  rw [List.range_succ, List.filter_append, List.map_append]
  congr 1
  rw [List.filter_cons_of_pos (by exact decide_eq_true h)]
  rfl
theorem snd_no {p k : Nat} {x : Int} (h : ¬ (co ls p k ≠ 1000 ∧ (k : Int) ≠ x)) : snd ls p x (k + 1) = snd ls p x k := by
  unfold snd
  rw [List.range_succ, List.filter_append, List.map_append, List.filter_cons_of_neg (by rw [decide_eq_true_eq]; exact h)]
  simp
theorem snd_le (p : Nat) (x : Int) : ∀ k, (snd ls p x k).length ≤ k
  | 0 => by simp [snd]
  | k + 1 => by
    have := snd_le p x k
    by_cases h : co ls p k ≠ 1000 ∧ (k : Int) ≠ x
    · rw [snd_yes h, List.length_append]; simp; omega
    · rw [snd_no h]; omega
/-- How many are on their way to v. -/
def cnt (v : Nat) : List Sd → Nat
  | [] => 0
  | d :: F => (if d.dst = v then 1 else 0) + cnt v F
theorem cnt_app (v : Nat) (G : List Sd) : ∀ F : List Sd, cnt v (F ++ G) = cnt v F + cnt v G
  | [] => by simp [cnt]
  | d :: F => by
    show (if d.dst = v then 1 else 0) + cnt v (F ++ G) = (if d.dst = v then 1 else 0) + cnt v F + cnt v G
    rw [cnt_app v G F]; omega
theorem cnt_snd (p v : Nat) (x : Int) : ∀ k, cnt v (snd ls p x k) = if v < k ∧ co ls p v ≠ 1000 ∧ (v : Int) ≠ x then 1 else 0
  | 0 => by simp [snd, cnt]
  | k + 1 => by
    have ih := cnt_snd p v x k
    by_cases h : co ls p k ≠ 1000 ∧ (k : Int) ≠ x
    · rw [snd_yes h, cnt_app, ih]
      show _ + ((if k = v then 1 else 0) + 0) = _
      by_cases e : k = v
      · subst e
        rw [if_neg (by omega), if_pos rfl, if_pos ⟨by omega, h⟩]
      · rw [if_neg e]
        by_cases h2 : v < k ∧ co ls p v ≠ 1000 ∧ (v : Int) ≠ x
        · rw [if_pos h2, if_pos ⟨by omega, h2.2⟩]
        · rw [if_neg h2, if_neg (fun h3 => h2 ⟨by omega, h3.2⟩)]
    · rw [snd_no h, ih]
      by_cases h2 : v < k ∧ co ls p v ≠ 1000 ∧ (v : Int) ≠ x
      · rw [if_pos h2, if_pos ⟨by omega, h2.2⟩]
      · rw [if_neg h2, if_neg]
        intro h3
        by_cases e : v = k
        · subst e; exact h h3.2
        · exact h2 ⟨by omega, h3.2⟩
theorem len_snd (p : Nat) (x : Int) : ∀ k, (snd ls p x k).length = sm (fun v => if co ls p v ≠ 1000 ∧ (v : Int) ≠ x then 1 else 0) k
  | 0 => by simp [snd, sm]
  | k + 1 => by
    rw [sm]
    by_cases h : co ls p k ≠ 1000 ∧ (k : Int) ≠ x
    · rw [snd_yes h, List.length_append, len_snd p x k, if_pos h]; simp; try omega
    · rw [snd_no h, len_snd p x k, if_neg h]; try omega
theorem sm_ext {f : Nat → Nat} {k : Nat} : ∀ m, k ≤ m → (∀ i, k ≤ i → f i = 0) → sm f m = sm f k
  | 0, h, _ => by
    obtain rfl : k = 0 := by omega
    rfl
  | m + 1, h, h0 => by
    by_cases e : k = m + 1
    · rw [e]
    · rw [sm, sm_ext m (by omega) h0, h0 m (by omega)]; try omega
theorem filter_ext {C : Nat → Bool} {k : Nat} : ∀ m, k ≤ m → (∀ v, C v = true → v < k) → (List.range m).filter C = (List.range k).filter C
  | 0, h, _ => by
    obtain rfl : k = 0 := by omega
    rfl
  | m + 1, h, hC => by
    by_cases e : k = m + 1
    · rw [e]
    · rw [List.range_succ, List.filter_append, filter_ext m (by omega) hC, List.filter_cons_of_neg (fun h2 => by have := hC m h2; omega)]
      simp
/-- Who will send when these come in. -/
noncomputable def nx (ls : List Lk) (s : Nat) (F : List Sd) : List Nat := (F.filter fun d => decide (hop ls d.dst s = (d.src : Int))).map Sd.dst
theorem nx_app (s : Nat) (F G : List Sd) : nx ls s (F ++ G) = nx ls s F ++ nx ls s G := by
  unfold nx; rw [List.filter_append, List.map_append]
theorem nx_snd (g : Vector.Good n ls) {s p : Nat} {x : Int} (hp : ds ls p s ≠ 1000) (hx : hop ls p s = x) : nx ls s (snd ls p x 8) = kids n ls s (p : Int) := by
  have e : nx ls s (snd ls p x 8) = (List.range 8).filter fun v => decide (co ls p v ≠ 1000 ∧ (v : Int) ≠ x) && decide (hop ls v s = (p : Int)) := by
    unfold nx snd
    rw [List.filter_map, List.map_map]
    rw [show (Sd.dst ∘ Sd.mk p) = id from rfl, List.map_id, List.filter_filter]
    refine List.filter_congr fun v _ => ?_
    rw [Bool.and_comm]
    rfl
  rw [e, filter_ext (k := n) 8 g.up (fun v hv => ?_)]
  · unfold kids
    refine List.filter_congr fun v _ => ?_
    rw [Bool.eq_iff_iff, Bool.and_eq_true, decide_eq_true_eq, decide_eq_true_eq, decide_eq_true_eq]
    constructor
    · rintro ⟨_, h⟩
      refine ⟨fun h2 => ?_, h⟩
      rw [hop_none g (.inl h2)] at h
      omega
    · rintro ⟨_, h⟩
      have h3 := hop_gives g h
      exact ⟨⟨h3.2.1, fun h4 => h3.2.2 (by rw [hx, h4])⟩, h⟩
  · rw [Bool.and_eq_true, decide_eq_true_eq, decide_eq_true_eq] at hv
    exact (gives_lt g (hop_gives g hv.2)).2.1
theorem gives_iff {s p v : Nat} {x : Int} (hp : ds ls p s ≠ 1000) (hx : hop ls p s = x) : gives ls s p v ↔ co ls p v ≠ 1000 ∧ (v : Int) ≠ x := by
  unfold gives
  rw [hx]
  constructor
  · rintro ⟨_, h1, h2⟩; exact ⟨h1, fun e => h2 e.symm⟩
  · rintro ⟨h1, h2⟩; exact ⟨hp, h1, fun e => h2 e.symm⟩
theorem mem_snd {p : Nat} {x : Int} {k : Nat} {d : Sd} (h : d ∈ snd ls p x k) : d.src = p ∧ co ls p d.dst ≠ 1000 ∧ (d.dst : Int) ≠ x := by
  unfold snd at h
  obtain ⟨v, h1, rfl⟩ := List.mem_map.1 h
  exact ⟨rfl, of_decide_eq_true (List.mem_filter.1 h1).2⟩
/-- The broadcast while it runs: P have sent, F is on its way; c have come in, k in all. -/
structure Fly (n : Nat) (ls : List Lk) (s : Nat) (P : List Nat) (F : List Sd) (c : Nat → Nat) (k : Nat) : Prop where
  run : Run n ls s P (nx ls s F)
  got : ∀ v, v < n → c v + cnt v F = had ls s P v
  num : k + F.length = many n ls s P
  ok : ∀ d ∈ F, gives ls s d.src d.dst
theorem had_snd (g : Vector.Good n ls) {s p : Nat} {x : Int} (hp : ds ls p s ≠ 1000) (hx : hop ls p s = x) (P : List Nat) {v : Nat} (hv : v < n) : had ls s (P ++ [p]) v = had ls s P v + cnt v (snd ls p x 8) := by
  rw [had_app, cnt_snd]
  have h8 := g.up
  by_cases h : gives ls s p v
  · rw [if_pos h, if_pos ⟨by omega, (gives_iff hp hx).1 h⟩]
  · rw [if_neg h, if_neg (fun h2 => h ((gives_iff hp hx).2 h2.2))]
theorem many_snd (g : Vector.Good n ls) {s p : Nat} {x : Int} (hp : ds ls p s ≠ 1000) (hx : hop ls p s = x) (P : List Nat) : many n ls s (P ++ [p]) = many n ls s P + (snd ls p x 8).length := by
  rw [many_app, len_snd]
  congr 1
  have e : (fun v => if gives ls s p v then 1 else 0) = fun v => if co ls p v ≠ 1000 ∧ (v : Int) ≠ x then 1 else 0 := funext fun v => by
    by_cases h : gives ls s p v
    · rw [if_pos h, if_pos ((gives_iff hp hx).1 h)]
    · rw [if_neg h, if_neg (fun h2 => h ((gives_iff hp hx).2 h2))]
  rw [e]
  refine (sm_ext 8 g.up fun v hv => ?_).symm
  rw [if_neg]
  intro h
  have := (gives_lt g ((gives_iff hp hx).2 h)).2.1
  omega
theorem fly_start (g : Vector.Good n ls) {s : Nat} (hs : s < n) : Fly n ls s [s] (snd ls s (-1) 8) (fun _ => 0) 0 := by
  have h0 : ds ls s s ≠ 1000 := by rw [ds_self g]; decide
  have h1 : hop ls s s = -1 := hop_none g (.inl rfl)
  refine ⟨?_, fun v hv => ?_, ?_, fun d hd => ?_⟩
  · rw [nx_snd g h0 h1]
    simpa using run_step g (run_start g hs)
  · have := had_snd g h0 h1 [] hv
    rw [List.nil_append] at this
    rw [this, show had ls s [] v = 0 from rfl]
  · have := many_snd g h0 h1 []
    rw [List.nil_append] at this
    rw [this, show many n ls s [] = 0 from sm_zero fun _ _ => rfl]
  · obtain ⟨h2, h3, h4⟩ := mem_snd hd
    rw [h2]
    exact (gives_iff h0 h1).2 ⟨h3, h4⟩
variable {s : Nat} {P : List Nat} {F : List Sd} {c c' : Nat → Nat} {k : Nat} {d : Sd}
/-- It comes from the next hop: it is passed on. -/
theorem Fly.pass (g : Vector.Good n ls) (h : Fly n ls s P (d :: F) c k) (hc : c' d.dst = c d.dst + 1) (ho : ∀ v, v ≠ d.dst → c' v = c v) (hh : hop ls d.dst s = (d.src : Int)) :
    Fly n ls s (P ++ [d.dst]) (F ++ snd ls d.dst (d.src : Int) 8) c' (k + 1) := by
  have e : nx ls s (d :: F) = d.dst :: nx ls s F := by
    unfold nx
    rw [List.filter_cons_of_pos (by exact decide_eq_true hh)]
    rfl
  have hr := h.run
  rw [e] at hr
  have hp : ds ls d.dst s ≠ 1000 := (hr.rng d.dst (by simp)).2
  refine ⟨?_, fun v hv => ?_, ?_, fun x hx => ?_⟩
  · rw [nx_app, nx_snd g hp hh]
    exact run_step g hr
  · rw [had_snd g hp hh P hv, cnt_app, ← h.got v hv]
    show _ = c v + ((if d.dst = v then 1 else 0) + cnt v F) + _
    by_cases e : v = d.dst
    · subst e; rw [if_pos rfl, hc]; omega
    · rw [if_neg (fun h => e h.symm), ho v e]; omega
  · rw [many_snd g hp hh P, ← h.num, List.length_append, List.length_cons]; omega
  · rcases List.mem_append.1 hx with h1 | h1
    · exact h.ok x (List.mem_cons_of_mem _ h1)
    · obtain ⟨h2, h3, h4⟩ := mem_snd h1
      rw [h2]
      exact (gives_iff hp hh).2 ⟨h3, h4⟩
/-- It does not: it is discarded. -/
theorem Fly.drop (h : Fly n ls s P (d :: F) c k) (hc : c' d.dst = c d.dst + 1) (ho : ∀ v, v ≠ d.dst → c' v = c v) (hh : ¬ hop ls d.dst s = (d.src : Int)) :
    Fly n ls s P F c' (k + 1) := by
  have e : nx ls s (d :: F) = nx ls s F := by
    unfold nx
    rw [List.filter_cons_of_neg (by rw [decide_eq_true_eq]; exact hh)]
  have hr := h.run
  rw [e] at hr
  refine ⟨hr, fun v hv => ?_, ?_, fun x hx => h.ok x (List.mem_cons_of_mem _ hx)⟩
  · rw [← h.got v hv]
    show _ = c v + ((if d.dst = v then 1 else 0) + cnt v F)
    by_cases e : v = d.dst
    · subst e; rw [if_pos rfl, hc]; omega
    · rw [if_neg (fun h => e h.symm), ho v e]; omega
  · rw [← h.num, List.length_cons]; omega
theorem sm_top {f : Nat → Nat} {b : Nat} : ∀ k, (∀ i, i < k → f i ≤ b) → sm f k ≤ k * b
  | 0, _ => by simp [sm]
  | k + 1, h => by
    have h1 := sm_top k (fun i hi => h i (by omega))
    have h2 := h k (by omega)
    rw [sm, Nat.add_mul]; omega
theorem had_le (v : Nat) : ∀ P : List Nat, had ls s P v ≤ P.length
  | [] => Nat.le_refl _
  | p :: P => by
    have := had_le v P
    unfold had at this ⊢
    rw [List.map_cons, List.sum_cons, List.length_cons]
    split <;> omega
theorem Fly.top (g : Vector.Good n ls) (h : Fly n ls s P F c k) : k + F.length ≤ 64 := by
  have h1 := run_len g h.run
  have h2 := g.up
  rw [h.num]
  have h3 : many n ls s P ≤ n * 8 := sm_top n fun v _ => by
    have := had_le (ls := ls) (s := s) v P
    omega
  omega
theorem Fly.lt (g : Vector.Good n ls) (h : Fly n ls s P (d :: F) c k) : d.src < n ∧ d.dst < n := by
  obtain ⟨h1, h2, _⟩ := gives_lt g (h.ok d (by simp))
  exact ⟨h1, h2⟩
theorem Fly.ended (g : Vector.Good n ls) (h : Fly n ls s P [] c k) : (∀ v, v < n → c v = copies n ls s v) ∧ k = sent n ls s := by
  have hr : Run n ls s P [] := h.run
  refine ⟨fun v hv => ?_, ?_⟩
  · have := h.got v hv
    rw [had_end g hr v] at this
    simpa [cnt] using this
  · have := h.num
    rw [many_end g hr] at this
    simpa using this
end Go.Proofs.YtedhippamfioeaaDoor.Rpf
