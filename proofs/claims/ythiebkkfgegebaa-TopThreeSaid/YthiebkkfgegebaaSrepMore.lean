/- Selective repeat with numbers enough: what is got is a beginning, and each exchange that loses nothing tells of one more. No statement is proved here. -/
import Derived.Test.YthiebkkfgegebaaSrepMath
namespace Go.Proofs.Ythiebkkfgegebaa.SrepMath
open Go.Proofs.Ythiebkkfgegebaa.Fate Go.Proofs.Ythiebkkfgegebaa.MapF

structure J (l : List Int) (W : Nat) (s : St) : Prop where
  g : s.g = l.take s.rf
  rfn : s.rf ≤ l.length
  rf0 : s.rh s.rf = none
  rh : ∀ j v, s.rf ≤ j → s.rh j = some v → j < s.sf + W ∧ j < l.length ∧ v = l[j]?.getD 0
  rw : s.rf ≤ s.sf + W
  shr : ∀ j v, s.sh j = some v → v = true ∧ j < l.length ∧ j < s.sf + W ∧ (j < s.rf ∨ (s.rh j).isSome = true)
  shl : ∀ j, j < s.sf → (s.sh j).isSome = true
  sfn : s.sf ≤ l.length
  sf0 : s.sh s.sf = none
  nd : s.q.Nodup
  q : ∀ x, x ∈ s.q ↔ s.sf ≤ x ∧ x < s.sf + W ∧ x < l.length ∧ s.sh x = none
theorem j0 (l : List Int) (W : Nat) : J l W (st0 l.length W) := by
  refine ⟨rfl, Nat.zero_le _, rfl, fun j v _ h => (by cases h), Nat.zero_le _, fun j v h => (by cases h), fun j h => absurd h (Nat.not_lt_zero _), Nat.zero_le _, rfl, spn_nodup _ _, fun x => ?_⟩
  show x ∈ spn 0 (min W l.length) ↔ 0 ≤ x ∧ x < 0 + W ∧ x < l.length ∧ none = none
  rw [spn_mem]
  constructor
  · intro h; exact ⟨h.1, by omega, by omega, rfl⟩
  · intro h; exact ⟨h.1, by omega⟩
theorem J.le {l : List Int} {W : Nat} {s : St} (h : J l W s) : s.sf ≤ s.rf := by
  rcases Nat.lt_or_ge s.rf s.sf with hlt | hge
  · obtain ⟨v, hv⟩ := Option.isSome_iff_exists.1 (h.shl _ hlt)
    rcases (h.shr _ v hv).2.2.2 with h1 | h1
    · omega
    · rw [h.rf0] at h1; cases h1
  · exact hge
/-- The queue turned. -/
theorem J.turn {l : List Int} {W : Nat} {rf : Nat} {rh : Nat → Option Int} {g : List Int} {sf : Nat} {sh : Nat → Option Bool} {x : Nat} {q : List Nat} (h : J l W ⟨rf, rh, g, sf, sh, x :: q⟩) : J l W ⟨rf, rh, g, sf, sh, back sh x q⟩ := by
  have hx := ((h.q x).1 (List.mem_cons_self ..)).2.2.2
  have hb : back sh x q = q ++ [x] := by
    unfold back
    rw [if_neg]
    have : sh x = none := hx
    rw [this]; decide
  have hp : (q ++ [x]).Perm (x :: q) := List.perm_append_singleton x q
  refine ⟨h.g, h.rfn, h.rf0, h.rh, h.rw, h.shr, h.shl, h.sfn, h.sf0, ?_, fun y => ?_⟩
  · show (back sh x q).Nodup
    rw [hb]
    exact hp.nodup_iff.2 h.nd
  · show y ∈ back sh x q ↔ _
    rw [hb, hp.mem_iff]
    exact h.q y
/-- The receiver gets the packet. -/
theorem J.got {l : List Int} {W R : Nat} (hWR : 2 * W ≤ R) {rf : Nat} {rh : Nat → Option Int} {g : List Int} {sf : Nat} {sh : Nat → Option Bool} {x : Nat} {q : List Nat} (h : J l W ⟨rf, rh, g, sf, sh, x :: q⟩) {RH : Nat → Option Int} (h3 : SrepMath.rec l W R x rf rh = RH) {L : List Int} {F : Nat} (h4 : pas RH W rf = (L, F)) :
    J l W ⟨F, RH, g ++ L, sf, sh, x :: q⟩ ∧ (x < F ∨ (RH x).isSome = true) := by
  obtain ⟨x1, x2, x3, x4⟩ := (h.q x).1 (List.mem_cons_self ..)
  have hle := h.le
  have hrw := h.rw
  have hrfn := h.rfn
  have hg := h.g
  dsimp only at x1 x2 x3 x4 hle hrw hrfn hg
  have hf := fnd_near (R := R) (x := x) (W := W) (a := rf) (by omega) (by omega) (by omega)
  have hRH : RH = if rf ≤ x then upd rh x (l[x]?.getD 0) else rh := by
    rw [← h3]
    by_cases e : rf ≤ x
    · rw [if_pos e] at hf ⊢; exact rec_yes hf
    · rw [if_neg e] at hf ⊢; exact rec_no hf
  have hkeep : ∀ j, (rh j).isSome = true → (RH j).isSome = true := fun j hj => by
    rw [hRH]
    split
    · by_cases e : j = x
      · subst e; rw [upd_same]; rfl
      · rw [upd_other _ _ e]; exact hj
    · exact hj
  have hh : ∀ j v, rf ≤ j → RH j = some v → j < sf + W ∧ j < l.length ∧ v = l[j]?.getD 0 := fun j v hj hv => by
    rw [hRH] at hv
    split at hv
    · by_cases e : j = x
      · subst e
        rw [upd_same] at hv
        injection hv with hv
        exact ⟨x2, x3, hv.symm⟩
      · rw [upd_other _ _ e] at hv; exact h.rh j v hj hv
    · exact h.rh j v hj hv
  have p1 := pas_le RH W rf
  have p2 := pas_held RH W rf
  have p3 := pas_stop RH W rf
  have p4 := pas_list RH l W rf (fun j v hj hv => (hh j v hj hv).2) hrfn
  rw [h4] at p1 p2 p3 p4
  dsimp only at p1 p2 p3 p4
  have held : ∀ j, rf ≤ j → j < F → j < sf + W ∧ j < l.length := fun j h1 h2 => by
    obtain ⟨v, hv⟩ := Option.isSome_iff_exists.1 (p2 j h1 h2)
    have := hh j v h1 hv
    exact ⟨this.1, this.2.1⟩
  have hFn : F ≤ l.length := by
    rcases Nat.lt_or_ge l.length F with hlt | hge
    · have := held l.length hrfn hlt; omega
    · exact hge
  have hFw : F ≤ sf + W := by
    rcases Nat.lt_or_ge (sf + W) F with hlt | hge
    · have := held (sf + W) hrw hlt; omega
    · exact hge
  refine ⟨⟨by rw [← p4, ← hg], hFn, ?_, fun j v hj => hh j v (by dsimp only at hj; omega), hFw, fun j v hv => ?_, h.shl, h.sfn, h.sf0, h.nd, h.q⟩, ?_⟩
  · show RH F = none
    rcases p3 with e | e
    · exact e
    · cases e2 : RH F with
      | none => rfl
      | some v =>
        have := (hh F v (by omega) e2).1
        omega
  · obtain ⟨k1, k2, k3, k4⟩ := h.shr j v hv
    refine ⟨k1, k2, k3, ?_⟩
    rcases k4 with k | k
    · exact .inl (by show j < F; dsimp only at k; omega)
    · exact .inr (hkeep j k)
  · by_cases e : rf ≤ x
    · exact .inr (by rw [hRH, if_pos e, upd_same]; rfl)
    · exact .inl (by omega)
/-- The sender hears of it. -/
theorem J.heard {l : List Int} {W R : Nat} (hWR : 2 * W ≤ R) {rf : Nat} {rh : Nat → Option Int} {g : List Int} {sf : Nat} {sh : Nat → Option Bool} {x : Nat} {q : List Nat} (h : J l W ⟨rf, rh, g, sf, sh, x :: q⟩) (hx : x < rf ∨ (rh x).isSome = true)
    {SH : Nat → Option Bool} (h5 : snd l.length W R x sf sh = SH) {L2 : List Bool} {F2 : Nat} (h6 : pas SH W sf = (L2, F2)) {b e : Nat} (h7 : sf + W = b) (h8 : min (F2 + W) l.length = e) : J l W ⟨rf, rh, g, F2, SH, back SH x (q ++ spn b e)⟩ ∧ SH = upd sh x true := by
  obtain ⟨x1, x2, x3, x4⟩ := (h.q x).1 (List.mem_cons_self ..)
  have hsfn := h.sfn
  have hrw := h.rw
  dsimp only at x1 x2 x3 x4 hsfn hrw
  have hf := fnd_near (R := R) (x := x) (W := W) (a := sf) (by omega) (by omega) (by omega)
  rw [if_pos x1] at hf
  have hSH : SH = upd sh x true := by rw [← h5]; exact snd_yes hf x3
  have hx' : SH x = some true := by rw [hSH, upd_same]
  have hother : ∀ j, j ≠ x → SH j = sh j := fun j hj => by rw [hSH, upd_other _ _ hj]
  have hsome : ∀ j v, SH j = some v → v = true ∧ j < l.length ∧ j < sf + W ∧ (j < rf ∨ (rh j).isSome = true) := fun j v hv => by
    by_cases ej : j = x
    · subst ej
      rw [hx'] at hv
      injection hv with hv
      exact ⟨hv.symm, x3, x2, hx⟩
    · rw [hother j ej] at hv; exact h.shr j v hv
  have p1 := pas_le SH W sf
  have p2 := pas_held SH W sf
  have p3 := pas_stop SH W sf
  rw [h6] at p1 p2 p3
  dsimp only at p1 p2 p3
  have hF2 : F2 ≤ l.length := by
    rcases Nat.lt_or_ge l.length F2 with hlt | hge
    · obtain ⟨v, hv⟩ := Option.isSome_iff_exists.1 (p2 l.length hsfn hlt)
      have := (hsome _ v hv).2.1
      omega
    · exact hge
  have hb : back SH x (q ++ spn b e) = q ++ spn b e := by unfold back; rw [if_pos]; rw [hx']; rfl
  have hnd : x ∉ q ∧ q.Nodup := List.nodup_cons.1 h.nd
  have hq0 : ∀ y, y ∈ q ↔ (sf ≤ y ∧ y < sf + W ∧ y < l.length ∧ sh y = none) ∧ y ≠ x := fun y => by
    constructor
    · intro hy
      exact ⟨(h.q y).1 (List.mem_cons_of_mem _ hy), fun e => hnd.1 (by rw [← e]; exact hy)⟩
    · intro ⟨h1, h2⟩
      rcases List.mem_cons.1 ((h.q y).2 h1) with e | hy
      · exact absurd e h2
      · exact hy
  refine ⟨⟨h.g, h.rfn, h.rf0, fun j v hj hv => ?_, ?_, fun j v hv => ?_, fun j hj => ?_, hF2, ?_, ?_, fun y => ?_⟩, hSH⟩
  · have := h.rh j v hj hv
    refine ⟨?_, this.2⟩
    have h1 := this.1
    show j < F2 + W
    dsimp only at h1
    omega
  · show rf ≤ F2 + W
    omega
  · have := hsome j v hv
    exact ⟨this.1, this.2.1, by show j < F2 + W; omega, this.2.2.2⟩
  · dsimp only at hj
    show (SH j).isSome = true
    by_cases e1 : sf ≤ j
    · exact p2 j e1 hj
    · by_cases e2 : j = x
      · rw [e2, hx']; rfl
      · rw [hother j e2]; exact h.shl j (by show j < sf; omega)
  · show SH F2 = none
    rcases p3 with e3 | e3
    · exact e3
    · cases e2 : SH F2 with
      | none => rfl
      | some v => have := (hsome F2 v e2).2.2.1; omega
  · show (back SH x (q ++ spn b e)).Nodup
    rw [hb]
    refine List.nodup_append.2 ⟨hnd.2, spn_nodup _ _, fun y hy z hz e4 => ?_⟩
    have h1 := ((hq0 y).1 hy).1.2.1
    have h2 := (spn_mem.1 hz).1
    omega
  · show y ∈ back SH x (q ++ spn b e) ↔ F2 ≤ y ∧ y < F2 + W ∧ y < l.length ∧ SH y = none
    rw [hb, List.mem_append, hq0 y, spn_mem]
    constructor
    · rintro (⟨⟨h1, h2, h3, h4⟩, h5⟩ | ⟨h1, h2⟩)
      · have hn : SH y = none := by rw [hother y h5]; exact h4
        refine ⟨?_, by omega, h3, hn⟩
        rcases Nat.lt_or_ge y F2 with hlt | hge
        · have := p2 y h1 hlt
          rw [hn] at this; cases this
        · exact hge
      · refine ⟨by omega, by omega, by omega, ?_⟩
        cases e2 : SH y with
        | none => rfl
        | some v => have := (hsome y v e2).2.2.1; omega
    · rintro ⟨h1, h2, h3, h4⟩
      have hyx : y ≠ x := fun e5 => by rw [e5, hx'] at h4; cases h4
      by_cases hy : y < sf + W
      · exact .inl ⟨⟨by omega, hy, h3, by rw [← hother y hyx]; exact h4⟩, hyx⟩
      · exact .inr ⟨by omega, by omega⟩

/-- How many of the first n are marked. -/
def cnt (sh : Nat → Option Bool) : Nat → Nat
  | 0 => 0
  | n + 1 => cnt sh n + (if (sh n).isSome = true then 1 else 0)
theorem cnt_far (sh : Nat → Option Bool) (x : Nat) : ∀ n, n ≤ x → cnt (upd sh x true) n = cnt sh n
  | 0, _ => rfl
  | n + 1, h => by rw [cnt, cnt, cnt_far sh x n (by omega), upd_other _ _ (by omega)]
theorem cnt_one (sh : Nat → Option Bool) (x : Nat) (hx : sh x = none) : ∀ n, x < n → cnt (upd sh x true) n = cnt sh n + 1
  | 0, h => absurd h (Nat.not_lt_zero _)
  | n + 1, h => by
    rw [cnt, cnt]
    by_cases e : x = n
    · subst e
      rw [cnt_far sh x x (Nat.le_refl _), upd_same, hx]
      rfl
    · rw [cnt_one sh x hx n (by omega), upd_other _ _ (fun e2 => e e2.symm)]
      omega
theorem cnt_le (sh : Nat → Option Bool) : ∀ n, cnt sh n ≤ n
  | 0 => Nat.le_refl _
  | n + 1 => by have := cnt_le sh n; rw [cnt]; split <;> omega
theorem cnt_full (sh : Nat → Option Bool) : ∀ n, cnt sh n = n → ∀ j, j < n → (sh j).isSome = true
  | 0, _, j, hj => absurd hj (Nat.not_lt_zero _)
  | n + 1, h, j, hj => by
    have h1 := cnt_le sh n
    rw [cnt] at h
    by_cases e : (sh n).isSome = true
    · rw [if_pos e] at h
      by_cases e2 : j = n
      · subst e2; exact e
      · exact cnt_full sh n (by omega) j (by omega)
    · rw [if_neg e] at h; omega
theorem cnt_ge (sh : Nat → Option Bool) (k : Nat) (hk : ∀ j, j < k → (sh j).isSome = true) : ∀ n, k ≤ n → k ≤ cnt sh n
  | 0, h => h
  | n + 1, h => by
    rw [cnt]
    by_cases e : k = n + 1
    · subst e
      rw [if_pos (hk n (by omega))]
      have := cnt_ge sh n (fun j hj => hk j (by omega)) n (Nat.le_refl _)
      omega
    · have := cnt_ge sh k hk n (by omega)
      omega
theorem cnt_none (n : Nat) : cnt (fun _ => none) n = 0 := by
  induction n with
  | zero => rfl
  | succ n ih => rw [cnt, ih]; rfl

def one (f : Fat) : Nat := if (!f.there && !f.back) = true then 1 else 0
theorem step_j {l : List Int} {W R : Nat} (hWR : 2 * W ≤ R) {f : Fat} {x : Nat} {q : List Nat} {s : St} (hq : s.q = x :: q) (h : J l W s) : J l W (step l W R f x q s) ∧ cnt (step l W R f x q s).sh l.length = cnt s.sh l.length + one f := by
  obtain ⟨rf, rh, g, sf, sh, q0⟩ := s
  obtain rfl : q0 = x :: q := hq
  obtain ⟨f1, f2⟩ := f
  obtain ⟨x1, x2, x3, x4⟩ := (h.q x).1 (List.mem_cons_self ..)
  cases f1 with
  | true => rw [step_lost l W R x q rf rh g sf sh (x :: q) rfl]; exact ⟨h.turn, rfl⟩
  | false =>
    obtain ⟨RH, h3⟩ : ∃ RH, SrepMath.rec l W R x rf rh = RH := ⟨_, rfl⟩
    obtain ⟨L, F, h4⟩ : ∃ L F, pas RH W rf = (L, F) := ⟨_, _, rfl⟩
    obtain ⟨hg, hxx⟩ := h.got hWR h3 h4
    cases f2 with
    | true => rw [step_back l W R x q rf rh g sf sh (x :: q) rfl rfl h3 h4]; exact ⟨hg.turn, rfl⟩
    | false =>
      obtain ⟨SH, h5⟩ : ∃ SH, snd l.length W R x sf sh = SH := ⟨_, rfl⟩
      obtain ⟨L2, F2, h6⟩ : ∃ L2 F2, pas SH W sf = (L2, F2) := ⟨_, _, rfl⟩
      obtain ⟨hh, hSH⟩ := hg.heard hWR hxx h5 h6 rfl rfl
      rw [step_fine l W R x q rf rh g sf sh (x :: q) rfl rfl h3 h4 h5 h6 rfl rfl]
      refine ⟨hh, ?_⟩
      show cnt SH l.length = cnt sh l.length + 1
      rw [hSH]
      exact cnt_one sh x x4 l.length x3
/-- With numbers enough. -/
theorem run_j (l : List Int) (W R : Nat) (hW : 1 ≤ W) (hWR : 2 * W ≤ R) : ∀ (fs : List Fat) (s : St), J l W s → J l W (run l W R fs s) ∧ cnt (run l W R fs s).sh l.length ≤ cnt s.sh l.length + AbpMath.fine fs ∧ ((run l W R fs s).sf = l.length ∨ cnt (run l W R fs s).sh l.length = cnt s.sh l.length + AbpMath.fine fs)
  | [], s, h => ⟨h, Nat.le_refl _, .inr rfl⟩
  | f :: fs, s, h => by
    have hf : AbpMath.fine (f :: fs) = AbpMath.fine fs + one f := List.countP_cons ..
    cases e : s.q with
    | nil =>
      rw [run_nil e]
      refine ⟨h, Nat.le_add_right _ _, .inl ?_⟩
      have h1 := h.sfn
      by_cases e2 : s.sf = l.length
      · exact e2
      · have := (h.q s.sf).2 ⟨Nat.le_refl _, by omega, by omega, h.sf0⟩
        rw [e] at this
        cases this
    | cons x q =>
      rw [run_cons e]
      obtain ⟨h1, h2⟩ := step_j hWR (f := f) e h
      obtain ⟨h3, h4, h5⟩ := run_j l W R hW hWR fs _ h1
      exact ⟨h3, by omega, by omega⟩
/-- What the laws ask: a beginning is got, no more is known; as many are known as exchanges lost nothing, or all. -/
theorem run_exact (l : List Int) (W R : Nat) (hW : 1 ≤ W) (hWR : 2 * W ≤ R) (fs : List Fat) : ∃ C, (run l W R fs (st0 l.length W)).g = l.take C ∧ C ≤ l.length ∧ (run l W R fs (st0 l.length W)).sf ≤ C ∧ (run l W R fs (st0 l.length W)).sf ≤ AbpMath.fine fs ∧ (l.length ≤ AbpMath.fine fs → (run l W R fs (st0 l.length W)).sf = l.length) := by
  obtain ⟨h1, h2, h3⟩ := run_j l W R hW hWR fs _ (j0 l W)
  have h0 : cnt (st0 l.length W).sh l.length = 0 := cnt_none _
  rw [h0] at h2 h3
  have h4 := cnt_ge _ _ h1.shl l.length h1.sfn
  refine ⟨_, h1.g, h1.rfn, h1.le, by omega, fun hf => ?_⟩
  rcases h3 with h3 | h3
  · exact h3
  · have h5 := cnt_le (run l W R fs (st0 l.length W)).sh l.length
    have h6 := cnt_full (run l W R fs (st0 l.length W)).sh l.length (by omega)
    have h7 := h1.sfn
    by_cases e : (run l W R fs (st0 l.length W)).sf = l.length
    · exact e
    · have := h6 (run l W R fs (st0 l.length W)).sf (by omega)
      rw [h1.sf0] at this
      cases this
end Go.Proofs.Ythiebkkfgegebaa.SrepMath
