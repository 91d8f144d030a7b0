/- The contracts of slices.SortFunc and slices.Clone at prefixes, and of cidr.order. No statement is proved here. -/
import Derived.Test.YtapaglapngbbpaaSortLay
import Derived.Test.YtapaglapngbbpaaCidrCmp
import Derived.Test.YtapaglapngbbpaaPfx
namespace Go.Proofs.Ytapaglapngbbpaa.Cidr
open Go.ChangeShapes Go.WideShapes Go.ChangeAt Go.RowKit Go.Sort Go.Shelf Go.Lib Go.Proofs.Ytapaglapngbbpaa.Kit Go.Proofs.Ytapaglapngbbpaa.App Go.Proofs.Ytapaglapngbbpaa.Cells Go.Proofs.Ytapaglapngbbpaa.CidrMath
set_option linter.unusedVariables false
set_option maxRecDepth 100000

instance : Inhabited Pfx := ⟨⟨0, 0⟩⟩
def encP (x : Pfx) : List Value := [.int .i64 x.adr, .int .i64 x.len]
theorem encP_len (x : Pfx) : (encP x).length = 2 := rfl
theorem encP_one (x : Pfx) : ∀ v ∈ encP x, v.oneCell' = true := fun v hv => by
  simp only [encP, List.mem_cons, List.not_mem_nil, or_false] at hv
  rcases hv with rfl | rfl <;> rfl
theorem ltOf_cf (x y : Pfx) : ltOf cf x y = true ↔ Bf x y := by
  unfold ltOf
  rw [decide_eq_true_iff]
  exact cf_neg x y
theorem ltOf_cf_not (x y : Pfx) : ltOf cf x y = false ↔ ¬ Bf x y := by
  rw [← ltOf_cf]; simp
theorem swo : SWO (ltOf cf) where
  irrefl x := by rw [ltOf_cf_not]; unfold Bf; omega
  trans x y z h1 h2 := by rw [ltOf_cf] at *; unfold Bf at *; omega
  ntrans x y z h1 h2 := by rw [ltOf_cf_not] at *; unfold Bf at *; omega
theorem cmpLays (blk off size : Nat) (w : World) : CmpLays Try.prog 37 #[] encP 2 cf blk off size w := fun _ _ _ _ x y => closure_any x y _
theorem sort_any (blk off cap sz : Nat) (d : Array Pfx) (w : World) (hsz0 : sz = d.size) (hH : HoldsK encP 2 w blk off d) (hblk : blk < w.heap.size) (hsz : d.size ≤ 1000) :
    Calls Try.prog 36 #[.slice (some ⟨blk, off, none⟩) sz cap, .func (.func 37) #[] #[]] w fun e w' => e = .returned (.tuple #[]) ∧ ∃ d' n os, PermIn 0 d.size d d' ∧ SortedIn (ltOf cf) 0 d.size d' ∧ w' = sortWorldK encP 2 w blk off n d' os := by
  subst hsz0
  have eg : ∀ args w, (callFunc 37 args).run Try.prog w = .ok (.enter 37 args) w := enters_of Try.func37 (by kernel_rfl) rfl
  exact AnyQ.slices_SortFunc Try.sortL 2 Try.isAgg24 Try.sizeOf24 encP (fun _ => rfl) encP_one cf swo 37 #[] blk off cap d w eg (cmpLays blk off d.size w) hH hblk (by omega)
theorem sort_none (p : Option Addr) (cap : Nat) (w : World) :
    Calls Try.prog 36 #[.slice p 0 cap, .func (.func 37) #[] #[]] w fun e w' => e = .returned (.tuple #[]) ∧ w' = w :=
  AnyF.slices_SortFunc_none (P := Try.prog) (ρ := Try.sortL_ren) { Try.sortL with } p cap (.func (.func 37) #[] #[]) w

theorem clone_nil (n c : Nat) (w : World) :
    Calls Try.prog 35 #[.slice none n c] w fun e w' => e = .returned (.slice none 0 0) ∧ w' = w := by
  have q1 : ∀ (w : World) (a : Option Addr) (n c n' c' : Nat), (binOp .eql 38 (.slice a n c) (.slice none n' c')).run Try.prog w = .ok (.bool a.isNone) w := fun w a n c n' c' => Lib.run_eql_slice_nil w _ _ a n c n' c' Try.underlying38
  go_enter Try.func35, Try.ntmps35
  go_wp2_with fail
  go_ret
  exact ⟨rfl, rfl⟩
theorem clone_any (a : Addr) (n c : Nat) (l : List Pfx) (w : World) (hn : n = l.length) (hc : CI lay w (some a) c l) (h40 : l.length ≤ 1000) :
    Calls Try.prog 35 #[.slice (some a) n c] w fun e w' => ∃ v, e = .returned v ∧ OC lay 24 w' w.heap.size v l ∧ Below w.heap.size w w' := by
  subst hn
  have q1 : ∀ (w : World) (a : Option Addr) (n c n' c' : Nat), (binOp .eql 38 (.slice a n c) (.slice none n' c')).run Try.prog w = .ok (.bool a.isNone) w := fun w a n c n' c' => Lib.run_eql_slice_nil w _ _ a n c n' c' Try.underlying38
  have hown : OC lay 24 (w.alloc (.cells #[] 24)) w.heap.size (.slice (some ⟨w.heap.size, 0, none⟩) 0 0) [] := World.ownsRow_made w #[] 0 (Nat.le_refl _) (Nat.zero_le _) (by simp)
  go_enter Try.func35, Try.ntmps35
  go_wp2_with (at_builtin
               refine wp_appC ty rfl (.tmp 5) (.tmp 6) rfl w.heap.size _ [] (some a) c l.length l rfl hown rfl rfl (hc.below (balloc (brefl w) _)) (by simp; omega) (by simp) ?_
               intro v1 wa hown1 hg1 hat1
               have hb1 : Below w.heap.size w wa := below_appC (balloc (brefl w) _) hown hg1 (by simp)
               clear hat1 hg1)
  go_ret
  exact ⟨_, rfl, by simpa using hown1, hb1⟩

theorem getP (l : List Pfx) (i : Nat) (hi : i < l.length) : (l.toArray)[i]! = l[i] := by
  rw [getElem!_pos l.toArray i (by simpa using hi)]
  simp
theorem holds_of {w : World} {base g cap : Nat} {l : List Pfx} (h : OC lay 24 w base (.slice (some ⟨g, 0, none⟩) l.length cap) l) : HoldsK encP 2 w g 0 l.toArray := by
  intro j hj
  rw [size_flatK] at hj
  rw [get_flatK _ _ _ _ hj, Nat.zero_add]
  have hj' : j < l.length * 2 := by simpa using hj
  have hq : j / 2 < l.length := Nat.div_lt_of_lt_mul (by omega)
  have hm : j % 2 < 2 := Nat.mod_lt _ (by omega)
  have e : l.toArray[j / 2]! = l[j / 2] := getP l (j / 2) hq
  have hg := lay.all_get l (j / 2) _ (List.getElem?_eq_getElem hq) (j % 2) hm
  have hjj : j / 2 * 2 + j % 2 = j := by omega
  change (lay.all l)[j / 2 * 2 + j % 2]? = _ at hg
  rw [hjj] at hg
  have h1 := World.ownsRow.cellAt h j hj'
  have h2 := World.ownsRow.frozenAt h j
  refine ⟨?_, h2⟩
  rw [h1, hg, e]
  show (encP l[j / 2])[j % 2]? = some (id (encP l[j / 2])[j % 2]!)
  have hl : j % 2 < (encP l[j / 2]).length := hm
  rw [List.getElem?_eq_getElem hl]
  simp only [id]
  rw [getElem!_pos (encP l[j / 2]) (j % 2) hl]
theorem reads_of {w : World} {g cap : Nat} {d : Array Pfx} (h : HoldsK encP 2 w g 0 d) (hc : d.size ≤ cap) (hm : cap ≤ maxLen) (hg : g < w.heap.size) : CI lay w (some ⟨g, 0, none⟩) cap d.toList := by
  refine ⟨by simpa using hc, hm, fun _ => ⟨g, 0, rfl, hg, fun j x hj i v hv => ?_⟩⟩
  have hjd : j < d.size := by
    rcases Nat.lt_or_ge j d.size with h1 | h1
    · exact h1
    · rw [List.getElem?_eq_none (by simpa using h1)] at hj; cases hj
  have hx : x = d[j]! := by
    rw [List.getElem?_eq_getElem (by simpa using hjd)] at hj
    rw [getElem!_pos d j hjd]
    simpa using hj.symm
  have hi : i < 2 := by
    rcases Nat.lt_or_ge i 2 with h1 | h1
    · exact h1
    · rw [List.getElem?_eq_none (by rw [lay.len]; exact h1)] at hv; cases hv
  have h1 := (HoldsK.cell h hjd hi).1
  rw [Nat.zero_add] at h1
  rw [Nat.zero_add]
  show w.cell? ⟨g, j * 2 + i, none⟩ = some v
  rw [h1]
  have hl : i < (encP d[j]!).length := hi
  rw [getElem!_pos (encP d[j]!) i hl]
  have hv' : (encP d[j]!)[i]? = some v := by rw [hx] at hv; exact hv
  rw [List.getElem?_eq_getElem hl] at hv'
  exact hv'
theorem below_sort {W w w' : World} {base blk off n : Nat} {d : Array Pfx} {os : Array Obj} (hb : Below base W w) (hB : base ≤ blk) (hblk : blk < w.heap.size) (e : w' = sortWorldK encP 2 w blk off n d os) : Below base W w' := by
  subst e
  refine hb.trans ⟨rfl, rfl, rfl, ?_, fun k hk => ?_⟩
  · exact size_sortWorldK_c encP 2 w blk off n d os
  · unfold sortWorldK grow putRowK putRow mapBlock
    have hk2 : k < w.heap.size := by omega
    have hne : ¬ blk = k := by omega
    show ((w.heap.modify blk _) ++ os)[k]? = w.heap[k]?
    rw [Array.getElem?_append_left (by simpa using hk2), Array.getElem?_modify, if_neg hne]
/-- The same prefixes, in order. -/
structure Ordered (l m : List Pfx) : Prop where
  perm : m.Perm l
  ord : m.Pairwise fun x y => ¬ Bf y x
theorem ordered_of {l : List Pfx} {d' : Array Pfx} (h1 : PermIn 0 l.toArray.size l.toArray d') (h2 : SortedIn (ltOf cf) 0 l.toArray.size d') : Ordered l d'.toList := by
  obtain ⟨hs, _, hp⟩ := h1
  have e1 : d'.extract 0 l.toArray.size = d' := by rw [← hs]; simp
  have e2 : l.toArray.extract 0 l.toArray.size = l.toArray := by simp
  rw [e1, e2] at hp
  refine ⟨by simpa using hp, ?_⟩
  rw [List.pairwise_iff_getElem]
  intro i j hi hj hij
  have hj' : j < d'.size := by simpa using hj
  have h := h2 i j (Nat.zero_le _) hij (by omega)
  rw [getElem!_pos d' j hj', getElem!_pos d' i (by omega), ltOf_cf_not] at h
  simpa using h
set_option maxHeartbeats 1000000 in
theorem order_any (p : Option Addr) (cap n : Nat) (l : List Pfx) (w : World) (hn : n = l.length) (hc : CI lay w p cap l) (h : l.length ≤ 1000) :
    Calls Try.prog 25 #[.slice p n cap] w fun e w' => ∃ q c m, e = .returned (.slice q l.length c) ∧ Ordered l m ∧ CI lay w' q c m ∧ Below w.heap.size w w' ∧ ∀ a, q = some a → w.heap.size ≤ a.block := by
  subst hn
  cases p with
  | none =>
    have hl : l = [] := by
      by_cases h0 : 0 < l.length
      · obtain ⟨b, off, ea, _⟩ := hc.2.2 h0; cases ea
      · exact List.eq_nil_of_length_eq_zero (by omega)
    subst hl
    have C := Lib.hid (fun W => clone_nil 0 cap W)
    have D := Lib.hid (fun W => sort_none none 0 W)
    clear hc h
    go_enter Try.func25, Try.ntmps25
    go_wp2_with fail
    refine (C.out _).mono ?_; rintro e w1 ⟨rfl, rfl⟩
    go_wp2_with fail
    refine (D.out _).mono ?_; rintro e w2 ⟨rfl, rfl⟩
    go_wp2_with fail
    go_ret
    exact ⟨none, 0, [], rfl, ⟨List.Perm.refl _, List.Pairwise.nil⟩, CI.nil _ _, brefl _, fun a h => by simp at h⟩
  | some a =>
    have C := Lib.hid (clone_any a l.length cap l w rfl hc h)
    have SN := Lib.hid @sort_none
    have SA := Lib.hid @sort_any
    clear hc
    go_enter Try.func25, Try.ntmps25
    go_wp2_with fail
    refine C.out.mono ?_; rintro e w1 ⟨v, rfl, hown, hb1⟩
    by_cases h0 : 0 < l.length
    · obtain ⟨g, cp, rfl, hgb, hgl, hcl, hcm⟩ : ∃ g cp, v = .slice (some ⟨g, 0, none⟩) l.length cp ∧ w.heap.size ≤ g ∧ g < w1.heap.size ∧ l.length ≤ cp ∧ cp ≤ maxLen := by
        obtain ⟨_, ⟨rfl, hz⟩ | ⟨g, cp, cur, rfl, h1, h2, h3, h4, _⟩⟩ := hown
        · omega
        · exact ⟨g, cp, rfl, h1, (Array.getElem?_eq_some_iff.1 h2).1, h3, h4⟩
      have R := holds_of hown
      have R2 := Lib.hid R
      have hsz : l.toArray.size = l.length := by simp
      clear hown R
      go_wp2_with fail
      refine (SA.out g 0 cp l.length l.toArray w1 hsz.symm R2.out hgl (by omega)).mono ?_
      rintro e w2 ⟨rfl, d', q, os, hp2, hs2, hw2⟩
      have hO : Ordered l d'.toList := ordered_of hp2 hs2
      have hlen : d'.size = l.length := by rw [hp2.1]; exact hsz
      have S : SWK encP 2 w1 g 0 d' w2 := ⟨q, os, hw2⟩
      have hR2 := R2.out
      have hCI : CI lay w2 (some ⟨g, 0, none⟩) cp d'.toList := reads_of (S.holds hgl hR2 (by rw [hlen, hsz])) (by omega) hcm (S.lt hgl)
      have hB := below_sort hb1 hgb hgl hw2
      clear S hp2 hs2 hR2 hw2
      go_wp2_with fail
      go_ret
      exact ⟨_, _, _, rfl, hO, hCI, hB, fun a h => by rw [← Option.some.inj h]; exact hgb⟩
    · have hl : l = [] := List.eq_nil_of_length_eq_zero (by omega)
      subst hl
      have hlt := hown.lt
      obtain ⟨q, c, rfl, hCI⟩ := hown.form
      have HLT := Lib.hid (show ∀ a, q = some a → w.heap.size ≤ a.block from fun a h => (hlt a.block (by rw [h]; rfl)).1)
      clear hown hlt
      go_wp2_with fail
      refine (SN.out q c _).mono ?_; rintro e w2 ⟨rfl, rfl⟩
      go_wp2_with fail
      go_ret
      exact ⟨q, c, [], rfl, ⟨List.Perm.refl _, List.Pairwise.nil⟩, hCI, hb1, HLT.out⟩
end Go.Proofs.Ytapaglapngbbpaa.Cidr
