/- Prefixes set, one after another, all with one next hop; a literal list of prefixes. No statement is proved here. -/
import Derived.Test.YtapaglapngbbpaaLpmOps
import Derived.Test.YtapaglapngbbpaaCidrFewest
namespace Go.Proofs.Ytapaglapngbbpaa.Lpm
open Go.ChangeShapes Go.WideShapes Go.ChangeAt Go.RowKit Go.Sort Go.Proofs.Ytapaglapngbbpaa.Kit Go.Proofs.Ytapaglapngbbpaa.App Go.Proofs.Ytapaglapngbbpaa.Cells Go.Proofs.Ytapaglapngbbpaa.Cidr Go.Proofs.Ytapaglapngbbpaa.CidrMath Go.Proofs.Ytapaglapngbbpaa.RouteMath Go.Proofs.Ytapaglapngbbpaa.Route
set_option linter.unusedVariables false
set_option maxRecDepth 20000

def put1 (h : Int) (t : List Rt) (p : Pfx) : List Rt := setN t ⟨p.adr, p.len, h⟩
def puts (l : List Pfx) (h : Int) : List Rt := l.foldl (put1 h) []
theorem puts_take (l : List Pfx) (h : Int) (k : Nat) (p : Pfx) (hp : l[k]? = some p) : puts (l.take (k + 1)) h = setN (puts (l.take k) h) ⟨p.adr, p.len, h⟩ := by
  unfold puts
  rw [List.take_add_one, hp]
  simp [put1]
/-- What the table holds, then. -/
structure Put (l : List Pfx) (h : Int) (t : List Rt) : Prop where
  gt : GT t
  len : t.length ≤ l.length
  hop : ∀ x ∈ t, x.hop = h
  has : ∀ p, (∃ x ∈ t, key x = p) ↔ p ∈ l
theorem Put.nil (h : Int) : Put [] h [] := ⟨GT.nil, Nat.le_refl _, fun x hx => by simp at hx, fun p => by simp⟩
theorem Put.ok0 {l : List Pfx} {h : Int} {t : List Rt} (H : Put l h t) (hh : 0 ≤ h ∧ h ≤ 9) {p : Pfx} (hp : CidrMath.Good p) (hl : l.length < 32) : setC t ⟨p.adr, p.len, h⟩ = 0 := by
  have hk : code (key ⟨p.adr, p.len, h⟩) = 0 := (good_iff _).2 hp
  unfold setC
  rw [if_neg (by simpa using hk), if_pos hh]
  split
  · rfl
  · rw [if_neg (by have := H.len; omega)]
theorem Put.more {l : List Pfx} {h : Int} {t : List Rt} (H : Put l h t) (hh : 0 ≤ h ∧ h ≤ 9) {p : Pfx} (hp : CidrMath.Good p) (hl : l.length < 32) : Put (l ++ [p]) h (setN t ⟨p.adr, p.len, h⟩) := by
  have h0 := H.ok0 hh hp hl
  have hm : ∀ x, x ∈ setN t ⟨p.adr, p.len, h⟩ ↔ x = ⟨p.adr, p.len, h⟩ ∨ (x ∈ t ∧ key x ≠ p) := fun x => by
    unfold setN
    rw [if_pos h0]
    exact set_mem H.gt.sorted ⟨p.adr, p.len, h⟩ _ decide_eq_true_iff x
  refine ⟨H.gt.set _, ?_, fun x hx => ?_, fun q => ?_⟩
  · unfold setN
    rw [if_pos h0, set_len _ _ _ decide_eq_true_iff, List.length_append]
    have := H.len
    split <;> simp <;> omega
  · rcases (hm x).1 hx with rfl | ⟨h1, _⟩
    · rfl
    · exact H.hop x h1
  · rw [List.mem_append, ← H.has q, List.mem_singleton]
    constructor
    · rintro ⟨x, hx, rfl⟩
      rcases (hm x).1 hx with rfl | ⟨h1, _⟩
      · exact .inr rfl
      · exact .inl ⟨x, h1, rfl⟩
    · rintro (⟨x, hx, rfl⟩ | rfl)
      · by_cases e : key x = p
        · exact ⟨⟨p.adr, p.len, h⟩, (hm _).2 (.inl rfl), e.symm⟩
        · exact ⟨x, (hm _).2 (.inr ⟨hx, e⟩), rfl⟩
      · exact ⟨⟨q.adr, q.len, h⟩, (hm _).2 (.inl rfl), rfl⟩
theorem puts_put (l : List Pfx) (h : Int) (hh : 0 ≤ h ∧ h ≤ 9) (hg : ∀ x ∈ l, CidrMath.Good x) (hl : l.length ≤ 32) : ∀ k, k ≤ l.length → Put (l.take k) h (puts (l.take k) h)
  | 0, _ => by rw [List.take_zero]; exact Put.nil h
  | k + 1, hk => by
    have hx : l[k]? = some l[k] := List.getElem?_eq_getElem (by omega)
    have e : l.take (k + 1) = l.take k ++ [l[k]] := by rw [List.take_add_one, hx]; rfl
    have ih := puts_put l h hh hg hl k (by omega)
    rw [puts_take l h k _ hx, e]
    exact ih.more hh (hg _ (List.getElem_mem _)) (by rw [List.length_take]; omega)
theorem lt_len2 {l : List Pfx} {k : Nat} {x : Pfx} (h : l[k]? = some x) : k < l.length := by
  rcases Nat.lt_or_ge k l.length with h1 | h1
  · exact h1
  · rw [List.getElem?_eq_none h1] at h; cases h
theorem puts_step (l : List Pfx) (h : Int) (hh : 0 ≤ h ∧ h ≤ 9) (hg : ∀ x ∈ l, CidrMath.Good x) (hl : l.length ≤ 32) (k : Nat) (p : Pfx) (hp : l[k]? = some p) :
    setC (puts (l.take k) h) ⟨p.adr, p.len, h⟩ = 0 ∧ setN (puts (l.take k) h) ⟨p.adr, p.len, h⟩ = puts (l.take (k + 1)) h ∧ GT (puts (l.take k) h) := by
  have hk := lt_len2 hp
  have H := puts_put l h hh hg hl k (by omega)
  exact ⟨H.ok0 hh (hg p (List.mem_of_getElem? hp)) (by rw [List.length_take]; omega), (puts_take l h k p hp).symm, H.gt⟩
theorem puts_all (l : List Pfx) (h : Int) (hh : 0 ≤ h ∧ h ≤ 9) (hg : ∀ x ∈ l, CidrMath.Good x) (hl : l.length ≤ 32) : Put l h (puts l h) := by
  have := puts_put l h hh hg hl l.length (Nat.le_refl _)
  rw [List.take_length] at this
  exact this
theorem Put.covers {l : List Pfx} {h : Int} {t : List Rt} (H : Put l h t) (z : Nat) : cov (t.map key) z ↔ cov l z := by
  unfold CidrMath.cov
  constructor
  · rintro ⟨p, hp, hz⟩
    obtain ⟨x, hx, rfl⟩ := List.mem_map.1 hp
    exact ⟨_, (H.has _).1 ⟨x, hx, rfl⟩, hz⟩
  · rintro ⟨p, hp, hz⟩
    obtain ⟨x, hx, rfl⟩ := (H.has p).2 hp
    exact ⟨_, List.mem_map.2 ⟨x, hx, rfl⟩, hz⟩
/-- What is found: the hop, just where some prefix has the address. -/
theorem Put.find {l : List Pfx} {h : Int} {t : List Rt} (H : Put l h t) (z : Nat) : (¬ CidrMath.cov l z ∧ findR t z = none) ∨ (CidrMath.cov l z ∧ ∃ x, findR t z = some x ∧ x.hop = h) := by
  obtain ⟨h1, h2⟩ := find_hop H.hop z
  rw [H.covers z] at h2
  cases e : findR t z with
  | none => exact .inl ⟨h2.1 e, rfl⟩
  | some x =>
    refine .inr ⟨Classical.not_not.1 fun hn => ?_, x, rfl, h1 x e⟩
    rw [h2.2 hn] at e; cases e
theorem find_same {l m : List Pfx} {h : Int} {t u : List Rt} (H : Put l h t) (G : Put m h u) (hc : ∀ z, CidrMath.cov m z ↔ CidrMath.cov l z) (a : Int) :
    foundH (fnd t a) = foundH (fnd u a) ∧ fndE t a = fndE u a := by
  unfold fnd fndE
  by_cases ha : 0 ≤ a ∧ a ≤ 65535
  · rw [if_pos ha, if_pos ha, if_pos ha, if_pos ha]
    rcases H.find a.toNat with ⟨h1, e1⟩ | ⟨h1, x, e1, q1⟩
    · rcases G.find a.toNat with ⟨h2, e2⟩ | ⟨h2, y, e2, q2⟩
      · rw [e1, e2]; exact ⟨rfl, rfl⟩
      · exact absurd ((hc _).1 h2) h1
    · rcases G.find a.toNat with ⟨h2, e2⟩ | ⟨h2, y, e2, q2⟩
      · exact absurd ((hc _).2 h1) h2
      · rw [e1, e2]; exact ⟨q1.trans q2.symm, rfl⟩
  · rw [if_neg ha, if_neg ha, if_neg ha, if_neg ha]; exact ⟨rfl, rfl⟩
theorem lit_pfx (w : World) (l : List Pfx) (t : TypeId) (hm : l.length ≤ 700) : CI lay (w.alloc (.cells (lay.all l).toArray t)) (some ⟨w.heap.size, 0, none⟩) l.length l :=
  ⟨Nat.le_refl _, by unfold maxLen; omega, fun _ => ⟨w.heap.size, 0, rfl, by simp, fun j x hj i v hv => by
    have h1 : (w.alloc (.cells (lay.all l).toArray t)).heap[w.heap.size]? = some (.cells (lay.all l).toArray t) := alloc_new w _
    have hi : i < 2 := by
      rcases Nat.lt_or_ge i 2 with h | h
      · exact h
      · rw [List.getElem?_eq_none (by rw [lay.len]; exact h)] at hv; cases hv
    unfold World.cell?
    rw [h1]
    have hg := lay.all_get l j x hj i hi
    rw [hv] at hg
    simpa using hg⟩⟩
end Go.Proofs.Ytapaglapngbbpaa.Lpm
