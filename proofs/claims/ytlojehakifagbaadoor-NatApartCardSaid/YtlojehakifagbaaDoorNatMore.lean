/- Package nat: what the laws say of tables. No statement is proved here. -/
import Derived.Test.YtlojehakifagbaaDoorNat1
namespace Go.Proofs.YtlojehakifagbaaDoor.Nat_
open Go.ChangeShapes Go.WideShapes Go.ChangeAt Go.RowKit Go.Proofs.YtlojehakifagbaaDoor.Kit Go.Proofs.YtlojehakifagbaaDoor.App Go.Proofs.YtlojehakifagbaaDoor.Cells Go.Proofs.YtlojehakifagbaaDoor.Err Go.Proofs.YtlojehakifagbaaDoor.MapG
set_option linter.unusedVariables false
set_option maxRecDepth 20000

variable {low many : Nat} {h h' : Int → Option Plc} {x y : Plc} {port c q : Int}
theorem Box.keep {X : Nat → Prop} {w w' : World} {g : Nat} (H : Box w g x) (hk : Keep X w w') (hg : X g) : Box w' g x := by
  have e : w'.heap[g]? = w.heap[g]? := hk.block g hg
  exact ⟨Nat.lt_of_lt_of_le H.1 hk.size, (World.cell?_of_block (w := w) (a := ⟨g, 0, none⟩) e).trans H.2.1, (World.cell?_of_block (w := w) (a := ⟨g, 1, none⟩) e).trans H.2.2⟩
theorem OutR.cases (A : OutR low many h x port c h') : (c = 0 ∧ h' port = some x) ∨ (port = 0 ∧ er c = .iface 55 (.int .i64 c)) := by
  rcases A with ⟨a1, a2, a3, a4⟩ | ⟨a1, a2, a3, a4⟩ | ⟨a1, a2, a3, a4, a5, a6, a7⟩ | ⟨a1, a2, a3, a4, a5, a6⟩
  · exact .inr ⟨a2, by rw [a3]; rfl⟩
  · exact .inl ⟨a3, by rw [a4]; exact a2⟩
  · exact .inl ⟨a6, by rw [a7, upd_same]⟩
  · exact .inr ⟨a4, by rw [a5]; rfl⟩
theorem OutR.keeps (A : OutR low many h x port c h') (hq : h q = some y) : h' q = some y := by
  rcases A with ⟨a1, a2, a3, a4⟩ | ⟨a1, a2, a3, a4⟩ | ⟨a1, a2, a3, a4, a5, a6, a7⟩ | ⟨a1, a2, a3, a4, a5, a6⟩
  · rw [a4]; exact hq
  · rw [a4]; exact hq
  · rw [a7, upd_other _ _ (fun e => by rw [e, a4] at hq; cases hq)]; exact hq
  · rw [a6]; exact hq
/-- What the list of the ports that are lent says, place by place. -/
theorem lent_facts (H : Tb low many h) : (∀ k, k < (lentL low many h).length → h ((lentL low many h)[k]?.getD 0) = some (atOf h ((lentL low many h)[k]?.getD 0)) ∧ (Lit.int .i64 ((lentL low many h)[k]?.getD 0)).wf = true) ∧
    (∀ j k, j < k → k < (lentL low many h).length → (lentL low many h)[j]?.getD 0 < (lentL low many h)[k]?.getD 0 ∧ atOf h ((lentL low many h)[j]?.getD 0) ≠ atOf h ((lentL low many h)[k]?.getD 0)) := by
  have key : ∀ k, k < (lentL low many h).length → h ((lentL low many h)[k]?.getD 0) = some (atOf h ((lentL low many h)[k]?.getD 0)) ∧ (Lit.int .i64 ((lentL low many h)[k]?.getD 0)).wf = true := fun k hk => by
    have hm : (lentL low many h)[k] ∈ lentL low many h := List.getElem_mem hk
    rw [List.getElem?_eq_getElem hk, Option.getD_some]
    obtain ⟨x, hx⟩ := Option.isSome_iff_exists.1 ((lentL_mem H _).1 hm)
    have := H.rng _ x hx
    have := H.lo
    exact ⟨by unfold atOf; rw [hx]; rfl, wf_in (by omega)⟩
  refine ⟨key, fun j k hjk hk => ?_⟩
  have hj : j < (lentL low many h).length := Nat.lt_trans hjk hk
  have hlt : (lentL low many h)[j]?.getD 0 < (lentL low many h)[k]?.getD 0 := by
    rw [List.getElem?_eq_getElem hk, List.getElem?_eq_getElem hj, Option.getD_some, Option.getD_some]
    exact List.pairwise_iff_getElem.1 (lentL_rise low many h) j k hj hk hjk
  refine ⟨hlt, fun e => ?_⟩
  have h1 := (key j hj).1
  have h2 := (key k hk).1
  rw [e] at h1
  have := H.inj _ _ _ h1 h2
  omega
/-- The cells of a list of numbers in every world to come. -/
theorem ints_all {q : Option Addr} {cp : Nat} {l : List Int} {w : World} (hI : Ints w q cp l) : 0 < l.length → ∃ b off, q = some ⟨b, off, none⟩ ∧ ∀ W : World, Below w.heap.size w W → ∀ k, k < l.length → W.cell? ⟨b, off + k, none⟩ = some (.int .i64 (l[k]?.getD 0)) := fun hn => by
  obtain ⟨b, off, e, hb, hc⟩ := hI.2.2.2 hn
  exact ⟨b, off, e, fun W hW k hk => (hW.cell (p := ⟨b, off + k, none⟩) hb).trans (hc k hk)⟩
/-- The first k ports are lent to places of their own. -/
def fil (low k : Nat) : Int → Option Plc := fun q => if (low : Int) ≤ q ∧ q < low + k then some ⟨q - low, 7⟩ else none
theorem fil_zero (low : Nat) : fil low 0 = fun _ => none := by
  funext q
  unfold fil
  rw [if_neg (by omega)]
theorem fil_some {low k : Nat} {r : Int} {x : Plc} (e : fil low k r = some x) : ((low : Int) ≤ r ∧ r < low + k) ∧ x = ⟨r - low, 7⟩ := by
  unfold fil at e
  split at e
  · rename_i h
    injection e with e
    exact ⟨h, e.symm⟩
  · cases e
theorem fil_is {low k : Nat} {r : Int} (h : (low : Int) ≤ r ∧ r < low + k) : fil low k r ≠ none := by
  unfold fil
  rw [if_pos h]
  simp
theorem fil_step {k : Nat} (H : Tb low many (fil low k)) (hk : k < many) (A : OutR low many (fil low k) ⟨k, 7⟩ port c h') : port = low + k ∧ c = 0 ∧ h' = fil low (k + 1) := by
  have hm := H.m30
  obtain ⟨h1, h2, h3⟩ := OutR.uniq H A (.inr (.inr (.inl ⟨⟨⟨by show (0 : Int) ≤ (k : Int); omega, by show (k : Int) ≤ 65535; omega⟩, (show num 7 by decide)⟩, fun r e => by
    obtain ⟨h4, h5⟩ := fil_some e
    injection h5 with h5 _
    omega, ⟨by omega, by omega⟩, by unfold fil; rw [if_neg (by omega)], fun r a b => fil_is ⟨a, by omega⟩, rfl, rfl⟩)) : OutR low many (fil low k) ⟨k, 7⟩ ((low : Int) + k) 0 (upd (fil low k) ((low : Int) + k) (some ⟨k, 7⟩)))
  refine ⟨h1, h2, h3.trans ?_⟩
  funext q
  by_cases hq : q = (low : Int) + k
  · rw [hq, upd_same]
    unfold fil
    rw [if_pos (by omega)]
    congr 2
    omega
  · rw [upd_other _ _ hq]
    unfold fil
    by_cases h4 : (low : Int) ≤ q ∧ q < low + k
    · rw [if_pos h4, if_pos (by omega)]
    · rw [if_neg h4, if_neg (by omega)]
theorem no99 {k : Nat} (hk : k ≤ 30) (r : Int) : fil low k r ≠ some ⟨99, 7⟩ := fun e => by
  obtain ⟨h4, h5⟩ := fil_some e
  injection h5 with h5 _
  omega
theorem fil_full (H : Tb low many (fil low many)) (A : OutR low many (fil low many) ⟨99, 7⟩ port c h') : port = 0 ∧ c = 4 ∧ h' = fil low many :=
  OutR.uniq H A (.inr (.inr (.inr ⟨by decide, no99 H.m30, fun r a b => fil_is ⟨a, b⟩, rfl, rfl, rfl⟩)))
theorem fil_len : (lentL low many (fil low many)).length = many := by
  unfold lentL
  rw [List.filter_eq_self.2 (fun q hq => by
    obtain ⟨i, hi, rfl⟩ := List.mem_map.1 hq
    have := List.mem_range.1 hi
    unfold fil
    rw [if_pos (by omega)]
    rfl)]
  simp
theorem fil_again {d : Int} (H : Tb low many (upd (fil low many) d none)) (hd : (low : Int) ≤ d ∧ d < low + many) (A : OutR low many (upd (fil low many) d none) ⟨99, 7⟩ port c h') : port = d ∧ c = 0 ∧ h' = upd (upd (fil low many) d none) d (some ⟨99, 7⟩) :=
  OutR.uniq H A (.inr (.inr (.inl ⟨by decide, fun r e => by
    by_cases hr : r = d
    · rw [hr, upd_same] at e; cases e
    · rw [upd_other _ _ hr] at e; exact no99 H.m30 r e, hd, upd_same _ _ _, fun r a b => by
    rw [upd_other _ _ (by omega)]; exact fil_is ⟨a, by omega⟩, rfl, rfl⟩)))
theorem fil_end {d : Int} (hd : (low : Int) ≤ d ∧ d < low + many) : noneC (upd (upd (fil low many) d none) d (some ⟨99, 7⟩)) ((low : Int) + many) = 5 := by
  have hne : (low : Int) + many ≠ d := by omega
  have e : fil low many ((low : Int) + many) = none := by
    unfold fil
    rw [if_neg (by omega)]
  unfold noneC
  rw [upd_other _ _ hne, upd_other _ _ hne, e]
  rfl
end Go.Proofs.YtlojehakifagbaaDoor.Nat_
