/- Package learn, LearnForgets: the last that were heard are the end of the table; how the switch and their list lie in memory. No statement is proved here. -/
import Derived.Test.YtbgbmchpikdgoaaDoorLearnOps
import Derived.Test.YtbgbmchpikdgoaaDoorLearnMore
namespace Go.Proofs.YtbgbmchpikdgoaaDoor.Learn
open Go.ChangeShapes Go.WideShapes Go.ChangeAt Go.RowKit Go.Proofs.YtbgbmchpikdgoaaDoor.Kit Go.Proofs.YtbgbmchpikdgoaaDoor.App Go.Proofs.YtbgbmchpikdgoaaDoor.Err
set_option linter.unusedVariables false
set_option maxRecDepth 20000

/-- All numbers but one. -/
def non (L : List Int) (a : Int) : List Int := L.filter fun x => !(x == a)
def cutL (L : List Int) : List Int := if 8 < L.length then L.drop 1 else L
def nextL (L : List Int) (a : Int) : List Int := cutL (non L a ++ [a])
theorem non_len (L : List Int) (a : Int) : (non L a).length ≤ L.length := List.length_filter_le _ _
theorem non_yes (L : List Int) {x a : Int} (h : x ≠ a) : non (L ++ [x]) a = non L a ++ [x] := by simp [non, List.filter_append, h]
theorem non_no (L : List Int) {x a : Int} (h : x = a) : non (L ++ [x]) a = non L a := by simp [non, List.filter_append, h]
/-- The table ends with the list, all at one port. -/
def Suf (l : List E) (L : List Int) (q : Int) : Prop := ∃ A, l = A ++ L.map fun x => (x, q)
theorem but_map (L : List Int) (a q : Int) : but (L.map fun x => ((x, q) : E)) a = (non L a).map fun x => (x, q) := by
  unfold but non
  rw [List.filter_map]
  rfl
theorem suf_next {l : List E} {L : List Int} {q : Int} (hok : Ok l) (h : Suf l L q) (a : Int) : Suf (hear l a q) (nextL L a) q := by
  obtain ⟨A, rfl⟩ := h
  obtain ⟨A', e⟩ := suf_hear hok a q
  refine ⟨A', ?_⟩
  rw [e, but_map]
  congr 1
  have : ((non L a).map fun x => ((x, q) : E)) ++ [(a, q)] = (non L a ++ [a]).map fun x => (x, q) := by rw [List.map_append]; rfl
  rw [this]
  unfold cut8 nextL cutL
  rw [List.length_map]
  split
  · rw [List.map_drop]
  · rfl
theorem suf_nil (l : List E) (q : Int) : Suf l [] q := ⟨l, by simp⟩
theorem suf_find {l : List E} {L : List Int} {q : Int} (hok : Ok l) (h : Suf l L q) {x : Int} (hx : x ∈ L) : find l x = q := by
  obtain ⟨A, rfl⟩ := h
  exact find_mem hok.nd (e := (x, q)) (List.mem_append_right _ (List.mem_map.2 ⟨x, hx, rfl⟩))
theorem suf_down {l : List E} {L : List Int} {q : Int} (h : Suf l L q) : L.length + (down l q).length ≤ l.length := by
  obtain ⟨A, rfl⟩ := h
  have h1 : down (A ++ L.map fun x => ((x, q) : E)) q = down A q := by
    unfold down
    rw [List.filter_append]
    have : (L.map fun x => ((x, q) : E)).filter (fun e => !(e.2 == q)) = [] := by
      rw [List.filter_eq_nil_iff]
      intro e he
      obtain ⟨x, _, rfl⟩ := List.mem_map.1 he
      simp
    rw [this, List.append_nil]
  rw [h1, List.length_append, List.length_map]
  have : (down A q).length ≤ A.length := List.length_filter_le _ _
  omega
theorem next_len {L : List Int} (h : L.length ≤ 8) (a : Int) : (nextL L a).length ≤ 8 := by
  have := non_len L a
  unfold nextL cutL
  split
  · rw [List.length_drop, List.length_append]; simp; omega
  · omega

/-- The blocks of before, and that of a list. -/
def XP (w0 : World) (p : Option Addr) (k : Nat) : Prop := k < w0.heap.size ∨ ∃ a, p = some a ∧ a.block = k
structure FS (w0 w : World) (s : Nat) (p : Option Addr) (c : Nat) (L : List Int) (l : List E) : Prop where
  sw : Sw (XP w0 p) w s l
  ints : Ints w p c L
  bel : Below w0.heap.size w0 w
variable {w0 w w' : World} {s : Nat} {p p' : Option Addr} {c c' : Nat} {L L' : List Int} {l l' : List E}
theorem FS.below (H : FS w0 w s p c L l) (hb : Below w.heap.size w w') : FS w0 w' s p c L l := ⟨H.sw.below hb, H.ints.below hb, bcall H.bel hb⟩
theorem FS.turn (H : FS w0 w s p c L l) (hs : Sw (XP w0 p) w' s l') (hk : Keep (XP w0 p) w w') : FS w0 w' s p c L l' :=
  ⟨hs, hk.ints H.ints (fun a e => .inr ⟨a, e, rfl⟩), H.bel.trans (hk.below (fun k h => .inl h))⟩
theorem FS.renew (H : FS w0 w s p c L l) (hb : Below w.heap.size w w') (hi : Ints w' p' c' L') (hp : ∀ a, p' = some a → w.heap.size ≤ a.block ∧ a.block < w'.heap.size) : FS w0 w' s p' c' L' l :=
  ⟨H.sw.late hb (fun k hk => by
    rcases hk with h | ⟨a, e, rfl⟩
    · exact ⟨.inl (.inl h), Nat.lt_of_lt_of_le h (Nat.le_trans H.bel.size hb.size)⟩
    · exact ⟨.inr (hp a e).1, (hp a e).2⟩), hi, bcall H.bel hb⟩
theorem FS.start {w0 w : World} {s : Nat} {l : List E} (h : Sw (fun k => k < w0.heap.size) w s l) (hb : Below w0.heap.size w0 w) : FS w0 w s none 0 [] l :=
  ⟨h.mono (fun k hk => by
    rcases hk with h | ⟨a, e, _⟩
    · exact h
    · cases e), Ints.nil w, hb⟩
end Go.Proofs.YtbgbmchpikdgoaaDoor.Learn
