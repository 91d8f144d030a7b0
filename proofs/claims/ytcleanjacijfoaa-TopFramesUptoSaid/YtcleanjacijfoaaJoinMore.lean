/- Fragments cut again, and whole ones alone: what comes together was whole. No statement is proved here. -/
import Derived.Test.YtcleanjacijfoaaJoinLaws
namespace Go.Proofs.Ytcleanjacijfoaa.Part
set_option linter.unusedVariables false

theorem of_moved {t : List UInt8} {x y : Prt} (hx : Of t x) (hy : Of x.bs y) (hpos : y.pos ≤ x.bs.length) : Of t (moved x y) := by
  have r1 := (right_iff x).1 hx.1
  have r2 := (right_iff y).1 hy.1
  have hb : (moved x y).bs = y.bs := rfl
  have hp : (moved x y).pos = x.pos + y.pos := rfl
  have hat : (moved x y).at = x.at + y.at := by unfold Prt.at; rw [hp]; omega
  have hend : ∀ i, y.covers i → i < x.bs.length := fun i hi => (hy.cell hi).1
  have hcx : ∀ i, (moved x y).covers i → x.covers i ∧ y.covers (i - x.at) := fun i hi => by
    unfold Prt.covers at hi
    rw [hat, hb] at hi
    have hc : y.covers (i - x.at) := by unfold Prt.covers; omega
    refine ⟨?_, hc⟩
    have := hend _ hc
    unfold Prt.covers; omega
  refine ⟨(right_iff _).2 ?_, fun h => ?_, fun i hi => ?_⟩
  · rw [hb, hp]
    by_cases h0 : y.bs.length = 0
    · rw [h0]; omega
    · have := hend (y.at + (y.bs.length - 1)) (by unfold Prt.covers; omega)
      unfold Prt.at at this
      omega
  · have hm : x.more = false ∧ y.more = false := by
      have : (x.more || y.more) = false := h
      simpa using this
    have e1 := hx.2.1 hm.1
    have e2 := hy.2.1 hm.2
    unfold ends at e1 e2 ⊢
    rw [hb, hp]; omega
  · obtain ⟨c1, c2⟩ := hcx i hi
    rw [hx.2.2 i c1, hat, hb]
    have := hy.2.2 _ c2
    rw [this]
    simp only [Option.getD_some]
    rw [show i - x.at - y.at = i - (x.at + y.at) by omega]
theorem cov_moved {x y : Prt} (hx : 0 ≤ x.pos) (hy : 0 ≤ y.pos) (i : Nat) : (moved x y).covers i ↔ x.at ≤ i ∧ y.covers (i - x.at) := by
  have hb : (moved x y).bs = y.bs := rfl
  have hp : (moved x y).pos = x.pos + y.pos := rfl
  have hat : (moved x y).at = x.at + y.at := by unfold Prt.at; rw [hp]; omega
  unfold Prt.covers
  rw [hat, hb]
  omega
/-- One of them cut again. -/
theorem whole_again {t : List UInt8} {l : List Prt} {k n : Nat} {x : Prt} (h : Whole t l) (hx : l[k]? = some x) (hn : 0 < n) (hs : x.dat.size ≤ 200) :
    Whole t ((parts x.dat n).map (moved x) ++ l.take k ++ l.drop (k + 1)) := by
  obtain ⟨ho, ⟨z, hz, hzm⟩, hc⟩ := h
  have hox := ho x (List.mem_of_getElem? hx)
  have hxp := ((right_iff x).1 hox.1).1
  have hsub : ∀ y ∈ l.take k ++ l.drop (k + 1), y ∈ l := fun y hy => by
    rcases List.mem_append.1 hy with h | h
    · exact List.mem_of_mem_take h
    · exact List.mem_of_mem_drop h
  have hsup : ∀ y ∈ l, y = x ∨ y ∈ l.take k ++ l.drop (k + 1) := fun y hy => by
    obtain ⟨j, hj⟩ := List.mem_iff_getElem?.1 hy
    rcases Nat.lt_trichotomy j k with h1 | h1 | h1
    · exact .inr (List.mem_append.2 (.inl (List.mem_iff_getElem?.2 ⟨j, by rw [List.getElem?_take, if_pos h1]; exact hj⟩)))
    · subst h1; rw [hx] at hj; exact .inl (Option.some.inj hj).symm
    · exact .inr (List.mem_append.2 (.inr (List.mem_iff_getElem?.2 ⟨j - (k + 1), by rw [List.getElem?_drop, show k + 1 + (j - (k + 1)) = j by omega]; exact hj⟩)))
  rw [List.append_assoc]
  refine ⟨fun y hy => ?_, ?_, fun i hi => ?_⟩
  · rcases List.mem_append.1 hy with h | h
    · obtain ⟨y0, hy0, rfl⟩ := List.mem_map.1 h
      exact of_moved hox (of_parts x.dat n hn hs y0 hy0) (parts_pos x.dat n hn y0 hy0).2
    · exact ho y (hsub y h)
  · rcases hsup z hz with rfl | h
    · exact ⟨moved z (tail z.dat n (more z.dat n)), List.mem_append.2 (.inl (List.mem_map.2 ⟨_, (mem_parts _ _ _).2 (.inr rfl), rfl⟩)), by unfold moved tail; simp [hzm]⟩
    · exact ⟨z, List.mem_append.2 (.inr h), hzm⟩
  · obtain ⟨y, hy, hyc⟩ := hc i hi
    rcases hsup y hy with rfl | h
    · have hb : y.bs.length = y.dat.size := rfl
      unfold Prt.covers at hyc
      obtain ⟨y0, hy0, hc0⟩ := cov_parts y.dat n (i - y.at) hn (by omega)
      exact ⟨moved y y0, List.mem_append.2 (.inl (List.mem_map.2 ⟨_, hy0, rfl⟩)), (cov_moved hxp (parts_pos _ _ hn _ hy0).1 i).2 ⟨hyc.1, hc0⟩⟩
    · exact ⟨y, List.mem_append.2 (.inr h), hyc⟩

theorem fold_ok : ∀ (l : List Prt) (fin : Int) (h : Nat → Nat) (fin' : Int) (h' : Nat → Nat), foldJ fin h l = .ok (fin', h') →
    (∀ x ∈ l, right x = true) ∧ (∀ x ∈ l, x.more = false → ends x = fin') ∧ (0 ≤ fin → fin' = fin) ∧ (fin' = fin ∨ ∃ x ∈ l, x.more = false) ∧
    (∀ x ∈ l, ∀ i, x.covers i → h' i = x.cell i) ∧ (∀ i, h i ≠ 0 → h' i = h i) ∧ (∀ i, h' i ≠ 0 → h i ≠ 0 ∨ ∃ x ∈ l, x.covers i)
  | [], fin, h, fin', h', e => by
    unfold foldJ at e
    injection e with e
    injection e with e1 e2
    subst e1; subst e2
    exact ⟨by simp, by simp, fun _ => rfl, .inl rfl, by simp, fun _ _ => rfl, fun _ hi => .inl hi⟩
  | x :: l, fin, h, fin', h', e => by
    unfold foldJ at e
    by_cases h1 : right x = false
    · rw [if_pos h1] at e; cases e
    rw [if_neg h1] at e
    by_cases h2 : x.more = false ∧ 0 ≤ fin ∧ fin ≠ ends x
    · rw [if_pos h2] at e; cases e
    rw [if_neg h2] at e
    by_cases h3 : clash h x
    · rw [if_pos h3] at e; cases e
    rw [if_neg h3] at e
    have hr : right x = true := by simpa using h1
    have he := right_ends hr
    obtain ⟨i1, i2, i3, i4, i5, i6, i7⟩ := fold_ok l _ _ fin' h' e
    have hcell : ∀ i, x.cell i ≠ 0 := fun i => by unfold Prt.cell; omega
    have hkeep : ∀ i, h i ≠ 0 → put h x i = h i := fun i hi => by
      unfold put
      by_cases hc : x.covers i
      · rw [if_pos hc]
        have h200 : i < 200 := by unfold Prt.covers at hc; omega
        by_cases hq : h i = x.cell i
        · exact hq.symm
        · exact absurd ⟨i, h200, hc, hi, hq⟩ h3
      · rw [if_neg hc]
    refine ⟨fun y hy => ?_, fun y hy hm => ?_, fun h0 => ?_, ?_, fun y hy i hc => ?_, fun i hi => ?_, fun i hi => ?_⟩
    · rcases List.mem_cons.1 hy with rfl | hy
      · exact hr
      · exact i1 y hy
    · rcases List.mem_cons.1 hy with rfl | hy
      · rw [if_neg (by simp [hm])] at i3
        exact (i3 he.1).symm
      · exact i2 y hy hm
    · by_cases hm : x.more = true
      · rw [if_pos hm] at i3; exact i3 h0
      · rw [if_neg hm] at i3
        have hm' : x.more = false := by simpa using hm
        rw [i3 he.1]
        by_cases hq : fin = ends x
        · exact hq.symm
        · exact absurd ⟨hm', h0, hq⟩ h2
    · by_cases hm : x.more = true
      · rw [if_pos hm] at i4
        rcases i4 with i4 | ⟨y, hy, hym⟩
        · exact .inl i4
        · exact .inr ⟨y, by simp [hy], hym⟩
      · exact .inr ⟨x, by simp, by simpa using hm⟩
    · rcases List.mem_cons.1 hy with rfl | hy
      · have hp : put h y i = y.cell i := by unfold put; rw [if_pos hc]
        rw [i6 i (by rw [hp]; exact hcell i), hp]
      · exact i5 y hy i hc
    · rw [i6 i (by rw [hkeep i hi]; exact hi), hkeep i hi]
    · rcases i7 i hi with h4 | ⟨y, hy, hc⟩
      · by_cases hc : x.covers i
        · exact .inr ⟨x, by simp, hc⟩
        · unfold put at h4; rw [if_neg hc] at h4; exact .inl h4
      · exact .inr ⟨y, by simp [hy], hc⟩

/-- What comes together was whole. -/
theorem join_ok {l : List Prt} {t : List UInt8} (e : joinM l = .ok t) : l.length ≤ 40 ∧ Whole t l := by
  unfold joinM at e
  by_cases h4 : 40 < l.length
  · rw [if_pos h4] at e; cases e
  rw [if_neg h4] at e
  cases hf : foldJ (-1) (fun _ => 0) l with
  | error m => rw [hf] at e; cases e
  | ok fh =>
    obtain ⟨fin, h⟩ := fh
    rw [hf] at e
    simp only at e
    by_cases h0 : fin < 0
    · rw [if_pos h0] at e; cases e
    rw [if_neg h0] at e
    by_cases h1 : ∃ i : Nat, i < 200 ∧ (i : Int) < fin ∧ h i = 0
    · rw [if_pos h1] at e; cases e
    rw [if_neg h1] at e
    by_cases h2 : ∃ i : Nat, i < 200 ∧ fin ≤ (i : Int) ∧ h i ≠ 0
    · rw [if_pos h2] at e; cases e
    rw [if_neg h2] at e
    injection e with e
    obtain ⟨i1, i2, i3, i4, i5, i6, i7⟩ := fold_ok l _ _ _ _ hf
    have hlen : (t.length : Int) = fin := by rw [← e]; simp; omega
    have hlast : ∃ x ∈ l, x.more = false := by
      rcases i4 with i4 | i4
      · omega
      · exact i4
    have hfin : fin ≤ 200 := by
      obtain ⟨x, hx, hm⟩ := hlast
      have := right_ends (i1 x hx)
      have := i2 x hx hm
      omega
    refine ⟨by omega, fun x hx => ⟨i1 x hx, fun hm => by rw [i2 x hx hm, hlen], fun i hc => ?_⟩, hlast, fun i hi => ?_⟩
    · have he := right_ends (i1 x hx)
      have h200 : i < 200 := by unfold Prt.covers at hc; omega
      have hcell := i5 x hx i hc
      have hne : h i ≠ 0 := by rw [hcell]; unfold Prt.cell; omega
      have hif : (i : Int) < fin := by
        rcases Int.lt_or_le (i : Int) fin with h3 | h3
        · exact h3
        · exact absurd ⟨i, h200, h3, hne⟩ h2
      rw [← e, List.getElem?_map, List.getElem?_range (by omega)]
      simp only [Option.map_some]
      rw [hcell]
      unfold Prt.cell
      simp
    · have hif : (i : Int) < fin := by omega
      have hne : h i ≠ 0 := fun h3 => h1 ⟨i, by omega, hif, h3⟩
      rcases i7 i hne with h3 | h3
      · exact absurd rfl h3
      · exact h3
theorem join_iff (l : List Prt) (t : List UInt8) : joinM l = .ok t ↔ l.length ≤ 40 ∧ Whole t l :=
  ⟨join_ok, fun h => join_whole h.2 h.1⟩
/-- In another order they come to the same. -/
theorem join_perm {l m : List Prt} (hl : l.length = m.length) (h : ∀ x, x ∈ l ↔ x ∈ m) (t : List UInt8) : joinM l = .ok t ↔ joinM m = .ok t := by
  rw [join_iff, join_iff, hl]
  unfold Whole
  simp only [h]
end Go.Proofs.Ytcleanjacijfoaa.Part
