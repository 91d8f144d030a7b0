/- The contract of slices.SortFunc at packets. No statement is proved here. -/
import Derived.Test.YtckfobkkjiiheaaSortLay
import Derived.Test.YtckfobkkjiiheaaPacket
namespace Go.Proofs.Ytckfobkkjiiheaa.Rounds
open Go.ChangeShapes Go.WideShapes Go.ChangeAt Go.RowKit Go.Sort Go.Shelf Go.Lib Go.Proofs.Ytckfobkkjiiheaa.Kit Go.Proofs.Ytckfobkkjiiheaa.App Go.Proofs.Ytckfobkkjiiheaa.Cells Go.Proofs.Ytckfobkkjiiheaa.Cmp
set_option linter.unusedVariables false
set_option maxRecDepth 100000

instance : Inhabited Pk := ⟨⟨0, 0, 0⟩⟩
def encP (x : Pk) : List Value := [.int .i64 x.num, .int .i64 x.size, .int .i64 x.rnd]
theorem encP_one (x : Pk) : ∀ v ∈ encP x, v.oneCell' = true := fun v hv => by
  simp only [encP, List.mem_cons, List.not_mem_nil, or_false] at hv
  rcases hv with rfl | rfl | rfl <;> rfl
theorem ltOf_cf (x y : Pk) : ltOf cf x y = true ↔ Bf x y := by
  unfold ltOf
  rw [decide_eq_true_iff]
  exact cf_neg x y
theorem ltOf_cf_not (x y : Pk) : ltOf cf x y = false ↔ ¬ Bf x y := by
  rw [← ltOf_cf]; simp
theorem swo : SWO (ltOf cf) where
  irrefl x := by rw [ltOf_cf_not]; unfold Bf; omega
  trans x y z h1 h2 := by rw [ltOf_cf] at *; unfold Bf at *; omega
  ntrans x y z h1 h2 := by rw [ltOf_cf_not] at *; unfold Bf at *; omega
theorem cmpLays (blk off size : Nat) (w : World) : CmpLays Try.prog 36 #[] encP 3 cf blk off size w := fun _ _ _ _ x y => closure_any x y _
theorem sort_any (blk off cap sz : Nat) (d : Array Pk) (w : World) (hsz0 : sz = d.size) (hH : HoldsK encP 3 w blk off d) (hblk : blk < w.heap.size) (hsz : d.size ≤ 1000) :
    Calls Try.prog 35 #[.slice (some ⟨blk, off, none⟩) sz cap, .func (.func 36) #[] #[]] w fun e w' => e = .returned (.tuple #[]) ∧ ∃ d' n os, PermIn 0 d.size d d' ∧ SortedIn (ltOf cf) 0 d.size d' ∧ w' = sortWorldK encP 3 w blk off n d' os := by
  subst hsz0
  have eg : ∀ args w, (callFunc 36 args).run Try.prog w = .ok (.enter 36 args) w := enters_of Try.func36 (by kernel_rfl) rfl
  exact AnyQ.slices_SortFunc Try.sortL 3 Try.isAgg60 Try.sizeOf60 encP (fun _ => rfl) encP_one cf swo 36 #[] blk off cap d w eg (cmpLays blk off d.size w) hH hblk (by omega)
theorem sort_none (p : Option Addr) (cap : Nat) (w : World) :
    Calls Try.prog 35 #[.slice p 0 cap, .func (.func 36) #[] #[]] w fun e w' => e = .returned (.tuple #[]) ∧ w' = w :=
  AnyF.slices_SortFunc_none (P := Try.prog) (ρ := Try.sortL_ren) { Try.sortL with } p cap (.func (.func 36) #[] #[]) w
theorem getP (l : List Pk) (i : Nat) (hi : i < l.length) : (l.toArray)[i]! = l[i] := by
  rw [getElem!_pos l.toArray i (by simpa using hi)]
  simp
theorem holds_of {w : World} {base g cap : Nat} {l : List Pk} (h : OC lay 60 w base (.slice (some ⟨g, 0, none⟩) l.length cap) l) : HoldsK encP 3 w g 0 l.toArray := by
  intro j hj
  rw [size_flatK] at hj
  rw [get_flatK _ _ _ _ hj, Nat.zero_add]
  have hj' : j < l.length * 3 := by simpa using hj
  have hq : j / 3 < l.length := Nat.div_lt_of_lt_mul (by omega)
  have hm : j % 3 < 3 := Nat.mod_lt _ (by omega)
  have e : l.toArray[j / 3]! = l[j / 3] := getP l (j / 3) hq
  have hg := lay.all_get l (j / 3) _ (List.getElem?_eq_getElem hq) (j % 3) hm
  have hjj : j / 3 * 3 + j % 3 = j := by omega
  change (lay.all l)[j / 3 * 3 + j % 3]? = _ at hg
  rw [hjj] at hg
  have h1 := World.ownsRow.cellAt h j hj'
  have h2 := World.ownsRow.frozenAt h j
  refine ⟨?_, h2⟩
  rw [h1, hg, e]
  show (encP l[j / 3])[j % 3]? = some (id (encP l[j / 3])[j % 3]!)
  have hl : j % 3 < (encP l[j / 3]).length := hm
  rw [List.getElem?_eq_getElem hl]
  simp only [id]
  rw [getElem!_pos (encP l[j / 3]) (j % 3) hl]
theorem reads_of {w : World} {g cap : Nat} {d : Array Pk} (h : HoldsK encP 3 w g 0 d) (hc : d.size ≤ cap) (hm : cap ≤ maxLen) (hg : g < w.heap.size) : CI lay w (some ⟨g, 0, none⟩) cap d.toList := by
  refine ⟨by simpa using hc, hm, fun _ => ⟨g, 0, rfl, hg, fun j x hj i v hv => ?_⟩⟩
  have hjd : j < d.size := by
    rcases Nat.lt_or_ge j d.size with h1 | h1
    · exact h1
    · rw [List.getElem?_eq_none (by simpa using h1)] at hj; cases hj
  have hx : x = d[j]! := by
    rw [List.getElem?_eq_getElem (by simpa using hjd)] at hj
    rw [getElem!_pos d j hjd]
    simpa using hj.symm
  have hi : i < 3 := by
    rcases Nat.lt_or_ge i 3 with h1 | h1
    · exact h1
    · rw [List.getElem?_eq_none (by rw [lay.len]; exact h1)] at hv; cases hv
  have h1 := (HoldsK.cell h hjd hi).1
  rw [Nat.zero_add] at h1
  rw [Nat.zero_add]
  show w.cell? ⟨g, j * 3 + i, none⟩ = some v
  rw [h1]
  have hl : i < (encP d[j]!).length := hi
  rw [getElem!_pos (encP d[j]!) i hl]
  have hv' : (encP d[j]!)[i]? = some v := by rw [hx] at hv; exact hv
  rw [List.getElem?_eq_getElem hl] at hv'
  exact hv'
theorem below_sort {W w w' : World} {base blk off n : Nat} {d : Array Pk} {os : Array Obj} (hb : Below base W w) (hB : base ≤ blk) (hblk : blk < w.heap.size) (e : w' = sortWorldK encP 3 w blk off n d os) : Below base W w' := by
  subst e
  refine hb.trans ⟨rfl, rfl, rfl, ?_, fun k hk => ?_⟩
  · exact size_sortWorldK_c encP 3 w blk off n d os
  · unfold sortWorldK grow putRowK putRow mapBlock
    have hk2 : k < w.heap.size := by omega
    have hne : ¬ blk = k := by omega
    show ((w.heap.modify blk _) ++ os)[k]? = w.heap[k]?
    rw [Array.getElem?_append_left (by simpa using hk2), Array.getElem?_modify, if_neg hne]
theorem ordered_of {l : List Pk} {d' : Array Pk} (h1 : PermIn 0 l.toArray.size l.toArray d') (h2 : SortedIn (ltOf cf) 0 l.toArray.size d') : d'.toList.Perm l ∧ d'.toList.Pairwise fun x y => ¬ Bf y x := by
  obtain ⟨hs, _, hp⟩ := h1
  have e1 : d'.extract 0 l.toArray.size = d' := by rw [← hs]; simp
  have e2 : l.toArray.extract 0 l.toArray.size = l.toArray := by simp
  rw [e1, e2] at hp
  refine ⟨by simpa using hp, ?_⟩
  rw [List.pairwise_iff_getElem]
  intro i j hi hj hij
  have hj' : j < d'.size := by simpa using hj
  have h := h2 i j (Nat.zero_le _) hij (by omega)
  rw [getElem!_pos d' j hj', getElem!_pos d' i (by omega), ltOf_cf_not] at h
  simpa using h
/-- A slice of packets of the call's own is sorted in place. -/
theorem sorted_any (w0 w : World) (p : Option Addr) (cap n : Nat) (l : List Pk) (hn : n = l.length) (hown : OC lay 60 w w0.heap.size (.slice p n cap) l) (hb : Below w0.heap.size w0 w) (h : l.length ≤ 1000) :
    Calls Try.prog 35 #[.slice p n cap, .func (.func 36) #[] #[]] w fun e w' => e = .returned (.tuple #[]) ∧ ∃ m, m.Perm l ∧ (m.Pairwise fun x y => ¬ Bf y x) ∧ CI lay w' p cap m ∧ Below w0.heap.size w0 w' := by
  subst hn
  by_cases h0 : 0 < l.length
  · obtain ⟨g, hgb, hgl, hcl, hcm, rfl⟩ : ∃ g, w0.heap.size ≤ g ∧ g < w.heap.size ∧ l.length ≤ cap ∧ cap ≤ maxLen ∧ p = some ⟨g, 0, none⟩ := by
      obtain ⟨_, ⟨e, hz⟩ | ⟨g, cp, cur, e, h1, h2, h3, h4, _⟩⟩ := hown
      · omega
      · injection e with e1 e2 e3
        subst e3
        exact ⟨g, h1, (Array.getElem?_eq_some_iff.1 h2).1, h3, h4, e1⟩
    have R := holds_of hown
    have hsz : l.toArray.size = l.length := by simp
    refine (sort_any g 0 cap l.length l.toArray w hsz.symm R hgl (by omega)).mono ?_
    rintro e w2 ⟨rfl, d', q, os, hp2, hs2, hw2⟩
    obtain ⟨hO1, hO2⟩ := ordered_of hp2 hs2
    have hlen : d'.size = l.length := by rw [hp2.1]; exact hsz
    have S : SWK encP 3 w g 0 d' w2 := ⟨q, os, hw2⟩
    have hCI : CI lay w2 (some ⟨g, 0, none⟩) cap d'.toList := reads_of (S.holds hgl R (by rw [hlen, hsz])) (by omega) hcm (S.lt hgl)
    exact ⟨rfl, _, hO1, hO2, hCI, below_sort hb hgb hgl hw2⟩
  · have hl : l = [] := List.eq_nil_of_length_eq_zero (by omega)
    subst hl
    obtain ⟨q, c, e, hCI⟩ := hown.form
    injection e with e1 e2 e3
    subst e1; subst e3
    refine (sort_none p cap w).mono ?_
    rintro e w2 ⟨rfl, rfl⟩
    exact ⟨rfl, [], List.Perm.refl _, List.Pairwise.nil, hCI, hb⟩
end Go.Proofs.Ytckfobkkjiiheaa.Rounds
