/- Putting fragments together again: what comes out, and when. No statement is proved here. -/
import Derived.Test.YtcleanjacijfoaaPartBox
namespace Go.Proofs.Ytcleanjacijfoaa.Part
set_option linter.unusedVariables false

def Prt.bs (x : Prt) : List UInt8 := x.dat.data.toList
def Prt.at (x : Prt) : Nat := x.pos.toNat
theorem bs_len (x : Prt) : x.bs.length = x.dat.size := rfl
def Prt.covers (x : Prt) (i : Nat) : Prop := x.at ≤ i ∧ i < x.at + x.bs.length
instance (x : Prt) (i : Nat) : Decidable (x.covers i) := by unfold Prt.covers; infer_instance
/-- What a cell holds: nought, or a byte and one. -/
def Prt.cell (x : Prt) (i : Nat) : Nat := (x.bs[i - x.at]?.getD 0).toNat + 1
def clash (h : Nat → Nat) (x : Prt) : Prop := ∃ i : Nat, i < 200 ∧ x.covers i ∧ h i ≠ 0 ∧ h i ≠ x.cell i
instance (h : Nat → Nat) (x : Prt) : Decidable (clash h x) := by unfold clash; infer_instance
def put (h : Nat → Nat) (x : Prt) : Nat → Nat := fun i => if x.covers i then x.cell i else h i
def ends (x : Prt) : Int := x.pos + x.bs.length
/-- The fragments in their order: an error's number, or the end and the cells. -/
def foldJ : Int → (Nat → Nat) → List Prt → Except Int (Int × (Nat → Nat))
  | fin, h, [] => .ok (fin, h)
  | fin, h, x :: l =>
    if right x = false then .error 1
    else if x.more = false ∧ 0 ≤ fin ∧ fin ≠ ends x then .error 6
    else if clash h x then .error 6
    else foldJ (if x.more = true then fin else ends x) (put h x) l
def joinM (l : List Prt) : Except Int (List UInt8) :=
  if 40 < l.length then .error 4
  else match foldJ (-1) (fun _ => 0) l with
    | .error e => .error e
    | .ok (fin, h) =>
      if fin < 0 then .error 5
      else if ∃ i : Nat, i < 200 ∧ (i : Int) < fin ∧ h i = 0 then .error 5
      else if ∃ i : Nat, i < 200 ∧ fin ≤ (i : Int) ∧ h i ≠ 0 then .error 6
      else .ok ((List.range fin.toNat).map fun i => (h i - 1).toUInt8)

theorem right_iff (x : Prt) : right x = true ↔ 0 ≤ x.pos ∧ x.pos ≤ 200 ∧ (x.bs.length : Int) ≤ 200 - x.pos := by
  unfold right
  rw [bs_len]
  simp [and_assoc]
theorem right_ends {x : Prt} (h : right x = true) : 0 ≤ ends x ∧ ends x ≤ 200 ∧ ends x = ((x.at + x.bs.length : Nat) : Int) := by
  have := (right_iff x).1 h
  unfold ends Prt.at
  omega
/-- A fragment is one of a text. -/
def Of (s : List UInt8) (x : Prt) : Prop := right x = true ∧ (x.more = false → ends x = s.length) ∧ ∀ i, x.covers i → s[i]? = some (x.bs[i - x.at]?.getD 0)
theorem Of.cell {s : List UInt8} {x : Prt} (h : Of s x) {i : Nat} (hc : x.covers i) : i < s.length ∧ x.cell i = (s[i]?.getD 0).toNat + 1 := by
  have := h.2.2 i hc
  refine ⟨?_, by unfold Prt.cell; rw [this]; rfl⟩
  rcases Nat.lt_or_ge i s.length with h1 | h1
  · exact h1
  · rw [List.getElem?_eq_none h1] at this; cases this

theorem fold_of (s : List UInt8) : ∀ (l : List Prt) (fin : Int) (h : Nat → Nat), (∀ x ∈ l, Of s x) → (fin = -1 ∨ fin = s.length) → (∀ i, h i = 0 ∨ h i = (s[i]?.getD 0).toNat + 1) →
    ∃ h', foldJ fin h l = .ok (if ∃ x ∈ l, x.more = false then (s.length : Int) else fin, h') ∧ ∀ i, h' i = if ∃ x ∈ l, x.covers i then (s[i]?.getD 0).toNat + 1 else h i
  | [], fin, h, _, _, _ => ⟨h, by simp [foldJ], fun i => by simp⟩
  | x :: l, fin, h, ho, hf, hh => by
    have hx := ho x (by simp)
    have h1 : ¬ right x = false := by rw [hx.1]; simp
    have h2 : ¬ (x.more = false ∧ 0 ≤ fin ∧ fin ≠ ends x) := fun ⟨a, b, c⟩ => by
      have := hx.2.1 a
      rcases hf with hf | hf <;> omega
    have h3 : ¬ clash h x := fun ⟨i, _, hc, h0, h1⟩ => by
      rcases hh i with e | e
      · exact h0 e
      · exact h1 (by rw [e, (hx.cell hc).2])
    have hput : ∀ i, put h x i = 0 ∨ put h x i = (s[i]?.getD 0).toNat + 1 := fun i => by
      unfold put
      by_cases hc : x.covers i
      · rw [if_pos hc]; exact .inr (hx.cell hc).2
      · rw [if_neg hc]; exact hh i
    have hfin : (if x.more = true then fin else ends x) = -1 ∨ (if x.more = true then fin else ends x) = (s.length : Int) := by
      by_cases hm : x.more = true
      · rw [if_pos hm]; exact hf
      · rw [if_neg hm]; exact .inr (hx.2.1 (by simpa using hm))
    obtain ⟨h', e1, e2⟩ := fold_of s l _ (put h x) (fun y hy => ho y (by simp [hy])) hfin hput
    refine ⟨h', ?_, fun i => ?_⟩
    · unfold foldJ
      rw [if_neg h1, if_neg h2, if_neg h3, e1]
      congr 2
      by_cases hl : ∃ y ∈ l, y.more = false
      · rw [if_pos hl, if_pos (by obtain ⟨y, hy, hm⟩ := hl; exact ⟨y, by simp [hy], hm⟩)]
      · rw [if_neg hl]
        by_cases hm : x.more = true
        · rw [if_pos hm, if_neg]
          rintro ⟨y, hy, hym⟩
          rcases List.mem_cons.1 hy with rfl | hy
          · rw [hm] at hym; cases hym
          · exact hl ⟨y, hy, hym⟩
        · have hm' : x.more = false := by simpa using hm
          rw [if_neg hm, if_pos ⟨x, by simp, hm'⟩, hx.2.1 hm']
    · rw [e2]
      by_cases hl : ∃ y ∈ l, y.covers i
      · rw [if_pos hl, if_pos (by obtain ⟨y, hy, hm⟩ := hl; exact ⟨y, by simp [hy], hm⟩)]
      · rw [if_neg hl]
        unfold put
        by_cases hc : x.covers i
        · rw [if_pos hc, if_pos ⟨x, by simp, hc⟩, (hx.cell hc).2]
        · rw [if_neg hc, if_neg]
          rintro ⟨y, hy, hyc⟩
          rcases List.mem_cons.1 hy with rfl | hy
          · exact hc hyc
          · exact hl ⟨y, hy, hyc⟩

/-- What is whole comes out whole. -/
def Whole (s : List UInt8) (l : List Prt) : Prop := (∀ x ∈ l, Of s x) ∧ (∃ x ∈ l, x.more = false) ∧ ∀ i, i < s.length → ∃ x ∈ l, x.covers i
theorem join_whole {s : List UInt8} {l : List Prt} (h : Whole s l) (h4 : l.length ≤ 40) : joinM l = .ok s := by
  obtain ⟨ho, hl, hc⟩ := h
  obtain ⟨h', e1, e2⟩ := fold_of s l (-1) (fun _ => 0) ho (.inl rfl) (fun _ => .inl rfl)
  rw [if_pos hl] at e1
  have hs : s.length ≤ 200 := by
    obtain ⟨x, hx, hm⟩ := hl
    have h1 := (ho x hx).2.1 hm
    have := right_ends (ho x hx).1
    omega
  unfold joinM
  rw [if_neg (by omega), e1]
  simp only
  rw [if_neg (by omega), if_neg, if_neg]
  · congr 1
    apply List.ext_getElem?
    intro i
    rw [List.getElem?_map]
    by_cases hi : i < s.length
    · rw [List.getElem?_range (by simpa using hi)]
      simp only [Option.map_some]
      rw [e2, if_pos (hc i hi), List.getElem?_eq_getElem hi]
      simp
    · rw [List.getElem?_eq_none (by simp; omega), List.getElem?_eq_none (by omega)]; rfl
  · rintro ⟨i, _, h1, h2⟩
    rw [e2] at h2
    by_cases hx : ∃ x ∈ l, x.covers i
    · obtain ⟨x, hx, hxc⟩ := hx
      have := ((ho x hx).cell hxc).1
      omega
    · rw [if_neg hx] at h2; exact h2 rfl
  · rintro ⟨i, _, h1, h2⟩
    rw [e2, if_pos (hc i (by omega))] at h2
    omega
/-- What lacks is seen. -/
theorem join_lack {s : List UInt8} {l : List Prt} (ho : ∀ x ∈ l, Of s x) (hs : s.length ≤ 200) (h4 : l.length ≤ 40) (hno : (¬ ∃ x ∈ l, x.more = false) ∨ ∃ i, i < s.length ∧ ¬ ∃ x ∈ l, x.covers i) : joinM l = .error 5 := by
  obtain ⟨h', e1, e2⟩ := fold_of s l (-1) (fun _ => 0) ho (.inl rfl) (fun _ => .inl rfl)
  unfold joinM
  rw [if_neg (by omega), e1]
  simp only
  by_cases hl : ∃ x ∈ l, x.more = false
  · rw [if_pos hl, if_neg (by omega)]
    rcases hno with hno | ⟨i, hi, hno⟩
    · exact absurd hl hno
    · rw [if_pos]
      exact ⟨i, by omega, by omega, by rw [e2, if_neg hno]⟩
  · rw [if_neg hl, if_pos (by omega)]
end Go.Proofs.Ytcleanjacijfoaa.Part
