/- RoundsApart's mathematics: one queue has one thing more. No statement is proved here. -/
import Derived.Test.YtmjkjkiogkmmpaaRoundsMath
import Derived.Test.YtmjkjkiogkmmpaaDrrCode
namespace Go.Proofs.Ytmjkjkiogkmmpaa.Rounds
open Go.Proofs.Ytmjkjkiogkmmpaa.Drr
set_option linter.unusedVariables false

theorem row_set {qs : List (List Int)} {a : Nat} (ha : a < qs.length) (l : List Int) (k : Nat) : row (qs.set a l) k = if k = a then l else row qs k := by
  unfold row
  rw [List.getElem?_set]
  by_cases e : a = k
  · subst e; rw [if_pos rfl, if_pos rfl, if_pos ha]; rfl
  · rw [if_neg e, if_neg (Ne.symm e)]
theorem things_set : ∀ (qs : List (List Int)) (a : Nat) (l : List Int), a < qs.length → things (qs.set a l) + (row qs a).length = things qs + l.length
  | [], a, l, h => by simp at h
  | m :: qs, 0, l, h => by simp [things, row]; omega
  | m :: qs, a + 1, l, h => by
    have := things_set qs a l (by simpa using h)
    simp only [things, row, List.set_cons_succ, List.map_cons, List.sum_cons, List.getElem?_cons_succ] at this ⊢
    omega
theorem bit_more {qs : List (List Int)} {a : Nat} {x : Int} (ha : a < qs.length) (hx : 0 ≤ x) (r : Int) : ∀ n : Nat, bit qs r n ≤ bit (qs.set a (row qs a ++ [x])) r n ∧ bit (qs.set a (row qs a ++ [x])) r n ≤ bit qs r n + if a < n then x else 0
  | 0 => by simp [bit]
  | n + 1 => by
    have ih := bit_more ha hx r n
    simp only [bit]
    rw [row_set ha]
    by_cases e : n = a
    · subst e
      rw [if_pos rfl, if_pos (by omega)]
      rw [if_neg (by omega)] at ih
      rw [tot_append]
      simp only [tot]
      omega
    · rw [if_neg e]
      by_cases h : a < n
      · rw [if_pos h] at ih; rw [if_pos (by omega)]; omega
      · rw [if_neg h] at ih; rw [if_neg (by omega)]; omega
theorem good_more {qs : List (List Int)} (hg : Drr.Good qs) {a : Nat} {x : Int} (ha : a < qs.length) (hx : 1 ≤ x ∧ x ≤ 20) (h8 : (row qs a).length < 8) : Drr.Good (qs.set a (row qs a ++ [x])) := by
  refine ⟨by rw [List.length_set]; exact hg.1, fun l hl => ?_⟩
  obtain ⟨k, hk, rfl⟩ := List.getElem_of_mem hl
  have e := row_set ha (row qs a ++ [x]) k
  have e2 : row (qs.set a (row qs a ++ [x])) k = (qs.set a (row qs a ++ [x]))[k] := by
    show (qs.set a (row qs a ++ [x]))[k]?.getD [] = _
    rw [List.getElem?_eq_getElem hk, Option.getD_some]
  rw [← e2, e]
  by_cases hka : k = a
  · rw [if_pos hka]
    refine ⟨by rw [List.length_append]; change (row qs a).length + 1 ≤ 8; omega, fun y hy => ?_⟩
    rcases List.mem_append.1 hy with hy | hy
    · exact (hg.row a).2 y hy
    · rw [List.mem_singleton.1 hy]; exact hx
  · rw [if_neg hka]
    exact hg.row k
theorem rnd_more {qs : List (List Int)} (hg : Drr.Good qs) {a : Nat} {x : Int} (ha : a < qs.length) (hg2 : Drr.Good (qs.set a (row qs a ++ [x]))) {m m2 : List Pk} (h : Srt qs m) (h2 : Srt (qs.set a (row qs a ++ [x])) m2)
    {i j k : Nat} {p q : Pk} (hp : m[i]? = some p) (hk : p.num = (k : Int)) (hka : k ≠ a) (hq : m2[j]? = some q) (hqk : q.num = (k : Int)) (hc : ((nums m2).take j).count (k : Int) = ((nums m).take i).count (k : Int)) : q.rnd = p.rnd := by
  have h3 := (h.at hg hp hk).2.2
  have h4 := (h2.at hg2 hq hqk).2.2
  rw [hc, row_set ha, if_neg hka] at h4
  rw [h3, h4]
end Go.Proofs.Ytmjkjkiogkmmpaa.Rounds
