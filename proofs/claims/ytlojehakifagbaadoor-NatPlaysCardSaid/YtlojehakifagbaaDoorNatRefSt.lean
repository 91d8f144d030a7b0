/- Package nat, the document's answer: the table as a list of ports and places. No statement is proved here. -/
import Derived.Test.YtlojehakifagbaaDoorNatSt
namespace Go.Proofs.YtlojehakifagbaaDoor.Nat_
open Go.ChangeShapes Go.WideShapes Go.ChangeAt Go.RowKit Go.Proofs.YtlojehakifagbaaDoor.Kit Go.Proofs.YtlojehakifagbaaDoor.App Go.Proofs.YtlojehakifagbaaDoor.Cells Go.Proofs.YtlojehakifagbaaDoor.Err Go.Proofs.YtlojehakifagbaaDoor.MapG
set_option linter.unusedVariables false
set_option maxRecDepth 20000

abbrev En := Int × Plc
/-- The document's place of a port; its port of a place. -/
def idx (l : List En) (a : Int) : Int :=
  match l with
  | [] => -1
  | e :: l => if e.1 = a then 0 else if idx l a = -1 then -1 else idx l a + 1
def pr (l : List En) (x : Plc) : Int :=
  match l with
  | [] => -1
  | e :: l => if e.2 = x then e.1 else pr l x
theorem idx_none {l : List En} {a : Int} (h : ∀ e ∈ l, e.1 ≠ a) : idx l a = -1 := by
  induction l with
  | nil => rfl
  | cons e l ih => rw [idx, if_neg (h e (by simp)), if_pos (ih (fun x hx => h x (by simp [hx])))]
theorem idx_at : ∀ {l : List En} {k : Nat} {x : En} {a : Int}, l[k]? = some x → x.1 = a → (∀ y ∈ l.take k, y.1 ≠ a) → idx l a = (k : Int)
  | [], k, x, a, h, _, _ => by simp at h
  | y :: l, 0, x, a, h, ha, _ => by
    have e : y = x := by simpa using h
    rw [e, idx, if_pos ha]; rfl
  | y :: l, k + 1, x, a, h, ha, hn => by
    have ih := idx_at (l := l) (k := k) (x := x) (a := a) (by simpa using h) ha (fun z hz => hn z (by rw [List.take_succ_cons]; exact List.mem_cons_of_mem _ hz))
    rw [idx, if_neg (hn y (by simp)), ih, if_neg (by omega)]
    omega
theorem idx_cases (l : List En) (a : Int) : (idx l a = -1 ∧ ∀ e ∈ l, e.1 ≠ a) ∨ ∃ (k : Nat) (x : Plc), idx l a = (k : Int) ∧ l[k]? = some (a, x) := by
  induction l with
  | nil => exact .inl ⟨rfl, by simp⟩
  | cons e l ih =>
    rw [idx]
    by_cases h : e.1 = a
    · rw [if_pos h]
      exact .inr ⟨0, e.2, rfl, by rw [← h]; rfl⟩
    · rw [if_neg h]
      rcases ih with ⟨h1, h2⟩ | ⟨k, x, h1, h2⟩
      · rw [if_pos h1]
        refine .inl ⟨rfl, fun y hy => ?_⟩
        rcases List.mem_cons.1 hy with rfl | hy
        · exact h
        · exact h2 y hy
      · rw [if_neg (by omega), h1]
        exact .inr ⟨k + 1, x, by omega, by simpa using h2⟩
theorem pr_none {l : List En} {x : Plc} (h : ∀ e ∈ l, e.2 ≠ x) : pr l x = -1 := by
  induction l with
  | nil => rfl
  | cons e l ih => rw [pr, if_neg (h e (by simp)), ih (fun y hy => h y (by simp [hy]))]
theorem pr_at : ∀ {l : List En} {k : Nat} {e : En} {x : Plc}, l[k]? = some e → e.2 = x → (∀ y ∈ l.take k, y.2 ≠ x) → pr l x = e.1
  | [], k, e, x, h, _, _ => by simp at h
  | y :: l, 0, e, x, h, hx, _ => by
    have e' : y = e := by simpa using h
    rw [e', pr, if_pos hx]
  | y :: l, k + 1, e, x, h, hx, hn => by
    have ih := pr_at (l := l) (k := k) (e := e) (x := x) (by simpa using h) hx (fun z hz => hn z (by rw [List.take_succ_cons]; exact List.mem_cons_of_mem _ hz))
    rw [pr, if_neg (hn y (by simp)), ih]
theorem pr_cases (l : List En) (x : Plc) : (pr l x = -1 ∧ ∀ e ∈ l, e.2 ≠ x) ∨ ∃ q, (q, x) ∈ l ∧ pr l x = q := by
  induction l with
  | nil => exact .inl ⟨rfl, by simp⟩
  | cons e l ih =>
    rw [pr]
    by_cases h : e.2 = x
    · rw [if_pos h]
      exact .inr ⟨e.1, by rw [← h]; simp, rfl⟩
    · rw [if_neg h]
      rcases ih with ⟨h1, h2⟩ | ⟨q, h1, h2⟩
      · refine .inl ⟨h1, fun y hy => ?_⟩
        rcases List.mem_cons.1 hy with rfl | hy
        · exact h
        · exact h2 y hy
      · exact .inr ⟨q, by simp [h1], h2⟩
theorem fst_at {l : List En} {k : Nat} {x : En} (h : l[k]? = some x) : (l.map Prod.fst)[k]?.getD 0 = x.1 := by rw [List.getElem?_map, h]; rfl
theorem snd_at {l : List En} {k : Nat} {x : En} (h : l[k]? = some x) : (l.map Prod.snd)[k]? = some x.2 := by rw [List.getElem?_map, h]; rfl
theorem lt_of_at {l : List En} {k : Nat} {x : En} (h : l[k]? = some x) : k < l.length := by
  rcases Nat.lt_or_ge k l.length with h1 | h1
  · exact h1
  · rw [List.getElem?_eq_none h1] at h; cases h
theorem take_at {l : List En} {k : Nat} {x : En} (h : l[k]? = some x) : l.take (k + 1) = l.take k ++ [x] := by rw [List.take_add_one, h]; rfl
/-- The document's list says what the table holds. -/
structure RL (h : Int → Option Plc) (L : List En) : Prop where
  mem : ∀ q x, h q = some x ↔ (q, x) ∈ L
  nd : (L.map Prod.fst).Nodup
variable {low many : Nat} {h h' : Int → Option Plc} {x : Plc} {q : Int} {L : List En}
theorem RL.nil : RL (fun _ => none) [] := ⟨fun q x => by simp, List.nodup_nil⟩
theorem RL.put (H : RL h L) (hq : h q = none) (x : Plc) : RL (upd h q (some x)) (L ++ [(q, x)]) := by
  have hnew : ∀ y, (q, y) ∉ L := fun y hy => by rw [← H.mem, hq] at hy; cases hy
  refine ⟨fun r y => ?_, ?_⟩
  · by_cases hr : r = q
    · subst hr
      rw [upd_same]
      simp only [Option.some.injEq, List.mem_append, List.mem_cons, List.not_mem_nil, or_false, Prod.mk.injEq, true_and]
      exact ⟨fun e => .inr e.symm, fun e => by
        rcases e with e | e
        · exact absurd e (hnew y)
        · exact e.symm⟩
    · rw [upd_other _ _ hr, H.mem]
      simp [hr]
  · rw [List.map_append, List.nodup_append]
    refine ⟨H.nd, by simp, fun a ha b hb => ?_⟩
    obtain ⟨y, hy, rfl⟩ := List.mem_map.1 ha
    simp at hb
    rw [hb]
    intro e
    exact hnew y.2 (by rw [← e]; exact hy)
theorem RL.del {k : Nat} (H : RL h L) (hk : L[k]? = some (q, x)) : RL (upd h q none) (L.eraseIdx k) := by
  have hkl := lt_of_at hk
  have key : ∀ i y, L[i]? = some y → y.1 = q → i = k := fun i y hi hy => by
    have hil := lt_of_at hi
    have h1 : (L.map Prod.fst)[i]? = some q := by rw [List.getElem?_map, hi]; simp [hy]
    have h2 : (L.map Prod.fst)[k]? = some q := by rw [List.getElem?_map, hk]; rfl
    exact (List.getElem?_inj (by rw [List.length_map]; exact hil) H.nd).1 (h1.trans h2.symm)
  refine ⟨fun r y => ?_, ?_⟩
  · rw [List.mem_eraseIdx_iff_getElem?]
    by_cases hr : r = q
    · subst hr
      rw [upd_same]
      refine ⟨fun e => (by cases e), fun ⟨i, h1, h2⟩ => absurd (key i _ h2 rfl) h1⟩
    · rw [upd_other _ _ hr, H.mem, List.mem_iff_getElem?]
      refine ⟨fun ⟨i, hi⟩ => ⟨i, fun e => ?_, hi⟩, fun ⟨i, _, hi⟩ => ⟨i, hi⟩⟩
      subst e
      rw [hk] at hi
      injection hi with hi
      injection hi with hi _
      exact hr hi.symm
  · exact List.Nodup.sublist ((List.eraseIdx_sublist L k).map _) H.nd
theorem RL.sorted (R : RL h L) (H : Tb low many h) : (L.map Prod.fst).mergeSort (fun a b => decide (a ≤ b)) = lentL low many h :=
  sorted_lentL H R.nd (fun q => by
    rw [List.mem_map]
    refine ⟨fun ⟨e, he, hq⟩ => ?_, fun hq => ?_⟩
    · have := (R.mem e.1 e.2).2 he
      rw [hq] at this
      rw [this]; rfl
    · obtain ⟨x, hx⟩ := Option.isSome_iff_exists.1 hq
      exact ⟨(q, x), (R.mem q x).1 hx, rfl⟩)
theorem RL.len (R : RL h L) (H : Tb low many h) : L.length = (lentL low many h).length := by
  rw [← R.sorted H, List.length_mergeSort, List.length_map]
theorem RL.few (R : RL h L) (H : Tb low many h) : L.length ≤ 30 := by
  rw [R.len H]
  exact Nat.le_trans (lentL_len low many h) H.m30
theorem RL.wf (R : RL h L) (H : Tb low many h) : ∀ e ∈ L, (Lit.int .i64 e.1).wf = true ∧ 0 ≤ e.1 := fun e he => by
  have h1 := (R.mem e.1 e.2).2 he
  have := H.rng _ _ h1
  have := H.lo
  exact ⟨wf_in (by omega), by omega⟩
/-- The list without the one at a place, up to k. -/
def bt (L : List En) (at_ k : Nat) : List En := (L.take k).eraseIdx at_
theorem bt_yes {at_ k : Nat} {e : En} (hk : L[k]? = some e) (hne : k ≠ at_) : bt L at_ (k + 1) = bt L at_ k ++ [e] := by
  have hl := lt_of_at hk
  have hlen : (L.take k).length = k := by rw [List.length_take]; omega
  unfold bt
  rw [take_at hk]
  rcases Nat.lt_or_gt_of_ne hne with h1 | h1
  · rw [List.eraseIdx_of_length_le (by rw [List.length_append, hlen]; simp; omega), List.eraseIdx_of_length_le (by omega)]
  · rw [List.eraseIdx_append_of_lt_length (by omega)]
theorem bt_not {k : Nat} {e : En} (hk : L[k]? = some e) : bt L k (k + 1) = bt L k k := by
  have hl := lt_of_at hk
  have hlen : (L.take k).length = k := by rw [List.length_take]; omega
  have e1 : (L.take k ++ [e]).eraseIdx k = L.take k := by
    rw [List.eraseIdx_append_of_length_le (by omega), hlen, Nat.sub_self]
    simp
  have e2 : (L.take k).eraseIdx k = L.take k := List.eraseIdx_of_length_le (by omega)
  unfold bt
  rw [take_at hk, e1, e2]
theorem bt_all (at_ : Nat) : bt L at_ L.length = L.eraseIdx at_ := by unfold bt; rw [List.take_length]
theorem bt_len (at_ k : Nat) : (bt L at_ k).length ≤ k := by
  unfold bt
  refine Nat.le_trans (List.length_eraseIdx_le _ _) ?_
  rw [List.length_take]; omega
end Go.Proofs.YtlojehakifagbaaDoor.Nat_
