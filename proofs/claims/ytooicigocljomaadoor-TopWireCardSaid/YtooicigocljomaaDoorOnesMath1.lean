/- The arithmetic of the Internet checksum: sums of words by what is left by 65535. No statement is proved here. -/
import Derived.Test.YtooicigocljomaaDoorOnes4
namespace Go.Proofs.YtooicigocljomaaDoor.OnesMath
open Go.RowKit Go.Proofs.YtooicigocljomaaDoor.Kit Go.Proofs.YtooicigocljomaaDoor.Ones
set_option linter.unusedVariables false

def lsum (l : List Int) : Int := l.foldl (· + ·) 0
theorem lsum_snoc (l : List Int) (x : Int) : lsum (l ++ [x]) = lsum l + x := by simp [lsum]
theorem lsum_range {l : List Int} (h : ∀ x ∈ l, 0 ≤ x ∧ x ≤ 255) : 0 ≤ lsum l ∧ lsum l ≤ 255 * l.length := by
  have key : ∀ (l : List Int) (s : Int), (∀ x ∈ l, 0 ≤ x ∧ x ≤ 255) → s ≤ l.foldl (· + ·) s ∧ l.foldl (· + ·) s ≤ s + 255 * l.length := by
    intro l
    induction l with
    | nil => intro s _; simp
    | cons x l ih =>
      intro s h
      have h1 := ih (s + x) (fun y hy => h y (by simp [hy]))
      have h2 := h x (by simp)
      simp only [List.foldl_cons, List.length_cons]
      omega
  have := key l 0 h
  unfold lsum; omega


def rnd (n : Int) : Int := if n = 0 then 0 else (n - 1) % 65535 + 1
theorem add1_rnd {a x : Int} (ha : 0 ≤ a) (hx : 0 ≤ x ∧ x ≤ 65535) : add1 (rnd a) x = rnd (a + x) := by
  unfold add1 rnd
  by_cases h0 : a = 0
  · subst h0
    rw [if_pos rfl]
    by_cases h1 : 0 + x = 0
    · rw [if_pos h1, if_neg (by omega)]; omega
    · rw [if_neg h1, if_neg (by omega)]; omega
  · rw [if_neg h0, if_neg (by omega : ¬ a + x = 0)]
    split <;> omega

theorem lsum_cons (x : Int) (l : List Int) : lsum (x :: l) = x + lsum l := by
  have key : ∀ (l : List Int) (s : Int), l.foldl (· + ·) s = s + l.foldl (· + ·) 0 := by
    intro l
    induction l with
    | nil => intro s; simp
    | cons y l ih => intro s; rw [List.foldl_cons, ih (s + y), List.foldl_cons, ih (0 + y)]; omega
  unfold lsum
  rw [List.foldl_cons, key l (0 + x)]
  omega
theorem lsum_nonneg {l : List Int} (h : ∀ x ∈ l, 0 ≤ x) : 0 ≤ lsum l := by
  induction l with
  | nil => simp [lsum]
  | cons x l ih => rw [lsum_cons]; have := ih (fun y hy => h y (by simp [hy])); have := h x (by simp); omega

theorem sum1_rnd {xs : List Int} (h : ∀ x ∈ xs, 0 ≤ x ∧ x ≤ 65535) : sum1 xs = rnd (lsum xs) := by
  have key : ∀ (l : List Int) (s : Int), 0 ≤ s → (∀ x ∈ l, 0 ≤ x ∧ x ≤ 65535) → l.foldl add1 (rnd s) = rnd (s + lsum l) := by
    intro l
    induction l with
    | nil => intro s _ _; simp [lsum]
    | cons x l ih =>
      intro s hs h
      have hx := h x (by simp)
      rw [List.foldl_cons, add1_rnd hs hx, ih (s + x) (by omega) (fun y hy => h y (by simp [hy])), lsum_cons, Int.add_assoc]
  have := key xs 0 (Int.le_refl _) h
  rw [Int.zero_add] at this
  rw [← this]
  rfl

/-- The bytes' sum, every other one 256 fold. -/
def wsb : Bool → List Int → Int
  | _, [] => 0
  | true, a :: r => a * 256 + wsb false r
  | false, a :: r => a + wsb true r

theorem words_cons2 (a b : Int) (r : List Int) : wordsOf (a :: b :: r) = (a * 256 + b) :: wordsOf r := by
  unfold wordsOf
  rw [show ((a :: b :: r).length + 1) / 2 = (r.length + 1) / 2 + 1 from by simp only [List.length_cons]; omega, List.range_succ_eq_map, List.map_cons, List.map_map]
  congr 1

theorem words_wsb : ∀ (n : Nat) (l : List Int), l.length ≤ n → lsum (wordsOf l) = wsb true l
  | _, [], _ => rfl
  | _, [a], _ => by simp [wordsOf, wordAt, lsum, wsb]
  | n + 2, a :: b :: r, h => by
    rw [words_cons2, lsum_cons, words_wsb n r (by simp at h; omega)]
    simp only [wsb]
    omega
  | 0, _ :: _ :: _, h => by simp at h
  | 1, _ :: _ :: _, h => by simp at h

theorem onesum_rnd {l : List Int} (h : wthn l 255 = true) : onesum l = rnd (wsb true l) := by
  unfold onesum
  rw [sum1_rnd (words_range h), words_wsb _ l (Nat.le_refl _)]

theorem bytes_of {l : List Int} (h : wthn l 255 = true) : ∀ x ∈ l, 0 ≤ x ∧ x ≤ 255 := fun x hx => by
  obtain ⟨j, hj, rfl⟩ := List.getElem_of_mem hx
  have := byte_at h j
  rwa [List.getElem?_eq_getElem hj] at this
theorem wthn_of {l : List Int} (h : ∀ x ∈ l, 0 ≤ x ∧ x ≤ 255) : wthn l 255 = true := decide_eq_true fun j hj => by
  rw [List.getElem?_eq_getElem hj]; exact h _ (List.getElem_mem hj)

theorem wsb_range : ∀ (b : Bool) (l : List Int), (∀ x ∈ l, 0 ≤ x ∧ x ≤ 255) → 0 ≤ wsb b l
  | b, [], _ => by cases b <;> exact Int.le_refl _
  | true, a :: r, h => by have h1 := h a (by simp); have h2 := wsb_range false r (fun x hx => h x (by simp [hx])); simp only [wsb]; omega
  | false, a :: r, h => by have h1 := h a (by simp); have h2 := wsb_range true r (fun x hx => h x (by simp [hx])); simp only [wsb]; omega

theorem wsb_append : ∀ (b : Bool) (l r : List Int), wsb b (l ++ r) = wsb b l + wsb (if l.length % 2 = 0 then b else !b) r
  | b, [], r => by cases b <;> simp [wsb]
  | true, a :: l, r => by
    have h := wsb_append false l r
    have e : (if (a :: l).length % 2 = 0 then true else !true) = (if l.length % 2 = 0 then false else !false) := by
      by_cases h0 : l.length % 2 = 0
      · rw [if_pos h0, if_neg (by simp only [List.length_cons]; omega)]; rfl
      · rw [if_neg h0, if_pos (by simp only [List.length_cons]; omega)]; rfl
    rw [e]
    simp only [List.cons_append, wsb, h]
    omega
  | false, a :: l, r => by
    have h := wsb_append true l r
    have e : (if (a :: l).length % 2 = 0 then false else !false) = (if l.length % 2 = 0 then true else !true) := by
      by_cases h0 : l.length % 2 = 0
      · rw [if_pos h0, if_neg (by simp only [List.length_cons]; omega)]; rfl
      · rw [if_neg h0, if_pos (by simp only [List.length_cons]; omega)]; rfl
    rw [e]
    simp only [List.cons_append, wsb, h]
    omega

/-- What a byte counts at its place. -/
def wgt (b : Bool) (i : Nat) : Int := if (i % 2 = 0) = (b = true) then 256 else 1
theorem wgt_succ (b : Bool) (i : Nat) : wgt (!b) i = wgt b (i + 1) := by
  unfold wgt
  have h : ((i % 2 = 0) = ((!b) = true)) = (((i + 1) % 2 = 0) = (b = true)) := by
    rcases Nat.mod_two_eq_zero_or_one i with h0 | h0
    · have h1 : (i + 1) % 2 = 1 := by omega
      rw [h0, h1]; cases b <;> simp
    · have h1 : (i + 1) % 2 = 0 := by omega
      rw [h0, h1]; cases b <;> simp
  simp only [h]
theorem wsb_set : ∀ (b : Bool) (l : List Int) (i : Nat) (x : Int), i < l.length → wsb b (l.set i x) = wsb b l + (x - l[i]?.getD 0) * wgt b i
  | _, [], _, _, h => absurd h (Nat.not_lt_zero _)
  | true, a :: l, 0, x, _ => by simp [wsb, wgt]; omega
  | false, a :: l, 0, x, _ => by simp [wsb, wgt]; omega
  | true, a :: l, i + 1, x, h => by
    have := wsb_set false l i x (by simpa using h)
    simp only [List.set_cons_succ, wsb, List.getElem?_cons_succ, this]
    rw [← wgt_succ true i, show (!true) = false from rfl]; omega
  | false, a :: l, i + 1, x, h => by
    have := wsb_set true l i x (by simpa using h)
    simp only [List.set_cons_succ, wsb, List.getElem?_cons_succ, this]
    rw [← wgt_succ false i, show (!false) = true from rfl]; omega
theorem wgt_cases (b : Bool) (i : Nat) : wgt b i = 256 ∨ wgt b i = 1 := by unfold wgt; split <;> simp

theorem even_wsb (l r : List Int) (h : l.length % 2 = 0) : wsb true (l ++ r) = wsb true l + wsb true r := by
  rw [wsb_append, if_pos h]

theorem rnd_range {n : Int} (h : 0 ≤ n) : 0 ≤ rnd n ∧ rnd n ≤ 65535 := by unfold rnd; split <;> omega

/-- Bytes with their sum behind them are good. -/
theorem good_all {l : List Int} (hb : wthn l 255 = true) (he : l.length % 2 = 0) {n : Int} (hn : n = 65535 - onesum l) :
    wthn (l ++ [n / 256] ++ [n % 256]) 255 = true ∧ onesum (l ++ [n / 256] ++ [n % 256]) = 65535 := by
  have hr := onesum_range hb
  have hw : wthn (l ++ [n / 256] ++ [n % 256]) 255 = true := wthn_of (fun x hx => by
    simp only [List.append_assoc, List.mem_append, List.mem_singleton] at hx
    rcases hx with hx | hx | hx
    · exact bytes_of hb x hx
    · omega
    · omega)
  refine ⟨hw, ?_⟩
  rw [onesum_rnd hw, List.append_assoc, even_wsb _ _ he]
  rw [onesum_rnd hb] at hn hr
  have h0 := wsb_range true l (bytes_of hb)
  generalize wsb true l = t at *
  simp only [List.cons_append, List.nil_append, wsb]
  have : n / 256 * 256 + (n % 256 + 0) = n := by omega
  rw [this]
  unfold rnd at hn ⊢
  split at hn <;> split <;> omega

/-- With one byte that is another one they are not. -/
theorem bad_set {l : List Int} (hb : wthn l 255 = true) (hg : onesum l = 65535) {i : Nat} (hi : i < l.length) {x : Int} (hx : 0 ≤ x ∧ x ≤ 255) (hne : l[i]?.getD 0 ≠ x) :
    wthn (l.set i x) 255 = true ∧ onesum (l.set i x) ≠ 65535 := by
  have hw : wthn (l.set i x) 255 = true := wthn_of (fun y hy => by
    rcases List.mem_or_eq_of_mem_set hy with h | rfl
    · exact bytes_of hb y h
    · exact hx)
  refine ⟨hw, ?_⟩
  rw [onesum_rnd hw, wsb_set _ _ _ _ hi]
  rw [onesum_rnd hb] at hg
  have h0 := wsb_range true l (bytes_of hb)
  have h1 := wsb_range true _ (bytes_of hw)
  rw [wsb_set _ _ _ _ hi] at h1
  have hy := byte_at hb i
  generalize wsb true l = t at *
  generalize l[i]?.getD 0 = y at *
  unfold rnd at hg ⊢
  rcases wgt_cases true i with e | e <;> rw [e] at h1 ⊢ <;> split at hg <;> split <;> omega

/-- Exchanging the bytes of all words. -/
def swp : List Int → List Int
  | a :: b :: r => b :: a :: swp r
  | l => l
theorem swp_wsb : ∀ (n : Nat) (l : List Int), l.length ≤ n → l.length % 2 = 0 → (∀ x ∈ l, 0 ≤ x ∧ x ≤ 255) → ∃ q : Int, wsb true (swp l) = 256 * wsb true l - 65535 * q ∧ (wsb true l = 0 → wsb true (swp l) = 0) ∧ (wsb true (swp l) = 0 → wsb true l = 0)
  | _, [], _, _, _ => ⟨0, by simp [swp, wsb], by simp [swp], by simp [swp]⟩
  | _, [a], _, h, _ => by simp at h
  | n + 2, a :: b :: r, h, he, hb => by
    obtain ⟨q, h1, h2, h3⟩ := swp_wsb n r (by simp at h; omega) (by simp at he; omega) (fun x hx => hb x (by simp [hx]))
    have ha := hb a (by simp); have hb' := hb b (by simp)
    have hr := wsb_range true r (fun x hx => hb x (by simp [hx]))
    have hm : ∀ x ∈ swp r, 0 ≤ x ∧ x ≤ 255 := by
      have key : ∀ (n : Nat) (l : List Int), l.length ≤ n → ∀ x ∈ swp l, x ∈ l := by
        intro n
        induction n with
        | zero => intro l hl x hx; have : l = [] := List.eq_nil_of_length_eq_zero (by omega); subst this; simp [swp] at hx
        | succ n ih =>
          intro l hl x hx
          match l, hx with
          | [], hx => simp [swp] at hx
          | [a], hx => simpa [swp] using hx
          | a :: b :: r, hx =>
            simp only [swp, List.mem_cons] at hx ⊢
            rcases hx with h | h | h
            · exact .inr (.inl h)
            · exact .inl h
            · exact .inr (.inr (ih r (by simp at hl; omega) x h))
      exact fun x hx => hb x (by have := key r.length r (Nat.le_refl _) x hx; simp [this])
    have hs := wsb_range true (swp r) hm
    refine ⟨q + a, ?_, ?_, ?_⟩
    · simp only [swp, wsb, h1]; omega
    · simp only [swp, wsb]; intro h0; have := h2 (by omega); omega
    · simp only [swp, wsb]; intro h0; have := h3 (by omega); omega
  | 0, _ :: _ :: _, h, _, _ => by simp at h
  | 1, _ :: _ :: _, h, _, _ => by simp at h
end Go.Proofs.YtooicigocljomaaDoor.OnesMath
