/- The contracts of slices.SortStableFunc, slices.Clone, and of frag.Order. No statement is proved here. -/
import Derived.Test.YtaflpdagehocfaaDoorSort5
import Derived.Test.YtaflpdagehocfaaDoorFCut
import Derived.Laws.OwnMore
import Derived.Lib.SlBy
namespace Go.Proofs.YtaflpdagehocfaaDoor.Srt
open Go.Proofs.YtaflpdagehocfaaDoor.Part Go.Proofs.YtaflpdagehocfaaDoor.Cells
open Go.Shelf Go.RowKit Go.Lib Go.Sort Go.ChangeAt Go.Proofs.YtaflpdagehocfaaDoor.Kit
set_option linter.unusedVariables false
set_option maxRecDepth 100000

theorem sort_none (p : Option Addr) (cap : Nat) (w : World) :
    Calls Tryd.prog 22 #[.slice p 0 cap, .func (.func 23) #[] #[]] w fun e w' => e = .returned (.tuple #[]) ∧ w' = w := by
  have C := Lib.hid (stable_none p cap w)
  go_enter Tryd.func22, Tryd.ntmps22
  go_wp2_with fail
  refine C.out.mono ?_; rintro e w1 ⟨rfl, rfl⟩
  go_wp2_with fail
  go_end0
  exact ⟨rfl, rfl⟩
theorem sort_any (blk off cap sz : Nat) (d : Array Tg) (w : World) (hsz0 : sz = d.size) (R : RowK encT 3 w blk off d) (hsz : d.size ≤ 40) (h0 : 0 < d.size) (hT : ∀ p q, p < q → q < d.size → (fn d p).2 < (fn d q).2) :
    Calls Tryd.prog 22 #[.slice (some ⟨blk, off, none⟩) sz cap, .func (.func 23) #[] #[]] w fun e w' => e = .returned (.tuple #[]) ∧ ∃ d', SWK encT 3 w blk off d' w' ∧ d'.size = d.size ∧ PermIn 0 d.size d d' ∧ Inc 0 d.size (fn d') := by
  subst hsz0
  have C := Lib.hid (stable_any blk off cap d.size d d w w rfl R rfl (SWK.start R.hH) hsz h0 hT)
  clear hT R
  go_enter Tryd.func22, Tryd.ntmps22
  go_wp2_with fail
  refine C.out.mono ?_; rintro e w1 ⟨rfl, d', S, h1, h2, h3⟩
  go_wp2_with fail
  go_end0
  exact ⟨rfl, d', S, h1, h2, h3⟩

theorem clone_nil (n c : Nat) (w : World) :
    Calls Tryd.prog 21 #[.slice none n c] w fun e w' => e = .returned (.slice none 0 0) ∧ w' = w := by
  have q1 : ∀ (w : World) (a : Option Addr) (n c n' c' : Nat), (binOp .eql 24 (.slice a n c) (.slice none n' c')).run Tryd.prog w = .ok (.bool a.isNone) w := fun w a n c n' c' => Lib.run_eql_slice_nil w _ _ a n c n' c' Tryd.underlying24
  go_enter Tryd.func21, Tryd.ntmps21
  go_wp2_with fail
  go_ret
  exact ⟨rfl, rfl⟩
theorem clone_any (a : Addr) (n c : Nat) (l : List Prt) (w : World) (hn : n = l.length) (hc : CI lay w (some a) c l) (h40 : l.length ≤ 40) :
    Calls Tryd.prog 21 #[.slice (some a) n c] w fun e w' => ∃ v, e = .returned v ∧ OC lay 23 w' w.heap.size v l ∧ Below w.heap.size w w' := by
  subst hn
  have q1 : ∀ (w : World) (a : Option Addr) (n c n' c' : Nat), (binOp .eql 24 (.slice a n c) (.slice none n' c')).run Tryd.prog w = .ok (.bool a.isNone) w := fun w a n c n' c' => Lib.run_eql_slice_nil w _ _ a n c n' c' Tryd.underlying24
  have hown : OC lay 23 (w.alloc (.cells #[] 23)) w.heap.size (.slice (some ⟨w.heap.size, 0, none⟩) 0 0) [] := World.ownsRow_made w #[] 0 (Nat.le_refl _) (Nat.zero_le _) (by simp)
  go_enter Tryd.func21, Tryd.ntmps21
  go_wp2_with (at_builtin
               refine wp_appC ty rfl (.tmp 5) (.tmp 6) rfl w.heap.size _ [] (some a) c l.length l rfl hown rfl rfl (hc.below (balloc (brefl w) _)) (by simp; omega) (by simp) ?_
               intro v1 wa hown1 hg1 hat1
               have hb1 : Below w.heap.size w wa := below_appC (balloc (brefl w) _) hown hg1 (by simp)
               clear hat1 hg1)
  go_ret
  exact ⟨_, rfl, by simpa using hown1, hb1⟩

/-- The places of some fragments, marked. -/
def tagd (l : List Prt) : Array Tg := l.zipIdx.toArray
theorem tagd_size (l : List Prt) : (tagd l).size = l.length := by simp [tagd]
theorem tagd_get (l : List Prt) (i : Nat) (hi : i < l.length) : fn (tagd l) i = (l[i], i) := by
  unfold fn tagd
  rw [getElem!_pos _ i (by simpa using hi)]
  simp
theorem holds_of {w : World} {base g cap : Nat} {l : List Prt} (h : OC lay 23 w base (.slice (some ⟨g, 0, none⟩) l.length cap) l) : HoldsK encT 3 w g 0 (tagd l) := by
  intro j hj
  rw [size_flatK, tagd_size] at hj
  rw [get_flatK _ _ _ _ (by rw [tagd_size]; exact hj), Nat.zero_add]
  have hq : j / 3 < l.length := Nat.div_lt_of_lt_mul (by omega)
  have hm : j % 3 < 3 := Nat.mod_lt _ (by omega)
  have e : (tagd l)[j / 3]! = (l[j / 3], j / 3) := tagd_get l (j / 3) hq
  have hg := lay.all_get l (j / 3) _ (List.getElem?_eq_getElem hq) (j % 3) hm
  have hjj : j / 3 * 3 + j % 3 = j := by omega
  change (lay.all l)[j / 3 * 3 + j % 3]? = _ at hg
  rw [hjj] at hg
  have h1 := World.ownsRow.cellAt h j hj
  have h2 := World.ownsRow.frozenAt h j
  refine ⟨?_, h2⟩
  rw [h1, hg, e]
  show (cells l[j / 3])[j % 3]? = some (id (cells l[j / 3])[j % 3]!)
  have hl : j % 3 < (cells l[j / 3]).length := hm
  rw [List.getElem?_eq_getElem hl]
  simp only [id]
  rw [getElem!_pos (cells l[j / 3]) (j % 3) hl]
theorem reads_of {w : World} {g cap : Nat} {d : Array Tg} (h : HoldsK encT 3 w g 0 d) (hc : d.size ≤ cap) (hm : cap ≤ maxLen) (hg : g < w.heap.size) : CI lay w (some ⟨g, 0, none⟩) cap (d.toList.map (·.1)) := by
  refine ⟨by simpa using hc, hm, fun _ => ⟨g, 0, rfl, hg, fun j x hj i v hv => ?_⟩⟩
  have hjd : j < d.size := by
    rcases Nat.lt_or_ge j d.size with h1 | h1
    · exact h1
    · rw [List.getElem?_eq_none (by simpa using h1)] at hj; cases hj
  have hx : x = (d[j]!).1 := by
    rw [List.getElem?_map, List.getElem?_eq_getElem (by simpa using hjd)] at hj
    rw [getElem!_pos d j hjd]
    simpa using hj.symm
  have hi : i < 3 := by
    rcases Nat.lt_or_ge i 3 with h1 | h1
    · exact h1
    · rw [List.getElem?_eq_none (by rw [lay.len]; exact h1)] at hv; cases hv
  have h1 := (HoldsK.cell h hjd hi).1
  rw [Nat.zero_add] at h1
  rw [Nat.zero_add]
  show w.cell? ⟨g, j * 3 + i, none⟩ = some v
  rw [h1]
  have hl : i < (encT d[j]!).length := hi
  rw [getElem!_pos (encT d[j]!) i hl]
  have hv' : (encT d[j]!)[i]? = some v := by rw [hx] at hv; exact hv
  rw [List.getElem?_eq_getElem hl] at hv'
  exact hv'
theorem below_sort {W w w' : World} {base blk off : Nat} {d : Array Tg} (hb : Below base W w) (hB : base ≤ blk) (hblk : blk < w.heap.size) (S : SWK encT 3 w blk off d w') : Below base W w' := by
  obtain ⟨n, os, rfl⟩ := S
  refine hb.trans ⟨rfl, rfl, rfl, ?_, fun k hk => ?_⟩
  · exact size_sortWorldK_c encT 3 w blk off n d os
  · unfold sortWorldK grow putRowK putRow mapBlock
    have hk2 : k < w.heap.size := by omega
    have hne : ¬ blk = k := by omega
    show ((w.heap.modify blk _) ++ os)[k]? = w.heap[k]?
    rw [Array.getElem?_append_left (by simpa using hk2), Array.getElem?_modify, if_neg hne]

set_option maxHeartbeats 1000000 in
theorem forder_big (p : Option Addr) (cap n : Nat) (l : List Prt) (w : World) (hn : n = l.length) (hc : CI lay w p cap l) (h : 40 < l.length) :
    Calls Tryd.prog 13 #[.slice p n cap] w fun e w' => e = .returned (.tuple #[.slice none 0 0, .iface 44 (.int .i64 4)]) ∧ w' = w := by
  subst hn
  have hl := hc.len_le
  have t0 : decide ((l.length : Int) > 40) = true := decide_eq_true (by omega)
  go_enter Tryd.func13, Tryd.ntmps13
  go_wp2_with fail
  go_ret2
  exact ⟨rfl, rfl⟩
set_option maxHeartbeats 1000000 in
theorem forder_any (p : Option Addr) (cap n : Nat) (l : List Prt) (w : World) (hn : n = l.length) (hc : CI lay w p cap l) (h : l.length ≤ 40) :
    Calls Tryd.prog 13 #[.slice p n cap] w fun e w' => ∃ q c m, e = .returned (.tuple #[.slice q l.length c, .nilIface]) ∧ Ordered l m ∧ CI lay w' q c m ∧ Below w.heap.size w w' := by
  subst hn
  have t0 : decide ((l.length : Int) > 40) = false := decide_eq_false (by omega)
  cases p with
  | none =>
    have hl : l = [] := by
      by_cases h0 : 0 < l.length
      · obtain ⟨b, off, ea, _⟩ := hc.2.2 h0; cases ea
      · exact List.eq_nil_of_length_eq_zero (by omega)
    subst hl
    have C := Lib.hid (fun W => clone_nil 0 cap W)
    have D := Lib.hid (fun W => sort_none none 0 W)
    clear hc h
    go_enter Tryd.func13, Tryd.ntmps13
    go_wp2_with fail
    refine (C.out _).mono ?_; rintro e w1 ⟨rfl, rfl⟩
    go_wp2_with fail
    refine (D.out _).mono ?_; rintro e w2 ⟨rfl, rfl⟩
    go_wp2_with fail
    go_ret2
    exact ⟨none, 0, [], rfl, ordered_nil, CI.nil _ _, brefl _⟩
  | some a =>
    have C := Lib.hid (clone_any a l.length cap l w rfl hc h)
    have SN := Lib.hid @sort_none
    have SA := Lib.hid @sort_any
    clear hc
    go_enter Tryd.func13, Tryd.ntmps13
    go_wp2_with fail
    refine C.out.mono ?_; rintro e w1 ⟨v, rfl, hown, hb1⟩
    by_cases h0 : 0 < l.length
    · obtain ⟨g, cp, rfl, hgb, hgl, hcl, hcm⟩ : ∃ g cp, v = .slice (some ⟨g, 0, none⟩) l.length cp ∧ w.heap.size ≤ g ∧ g < w1.heap.size ∧ l.length ≤ cp ∧ cp ≤ maxLen := by
        obtain ⟨_, ⟨rfl, hz⟩ | ⟨g, cp, cur, rfl, h1, h2, h3, h4, _⟩⟩ := hown
        · omega
        · exact ⟨g, cp, rfl, h1, (Array.getElem?_eq_some_iff.1 h2).1, h3, h4⟩
      have R : RowK encT 3 w1 g 0 (tagd l) := ⟨encT_len, encT_one, holds_of hown, hgl⟩
      have hsz := tagd_size l
      have R2 := Lib.hid R
      have hT : Hid (∀ p q, p < q → q < (tagd l).size → (fn (tagd l) p).2 < (fn (tagd l) q).2) := by
        intro p q h1 h2
        rw [tagd_get l p (by omega), tagd_get l q (by omega)]
        exact h1
      clear hown R
      go_wp2_with fail
      refine (SA.out g 0 cp l.length (tagd l) w1 hsz.symm R2.out (by omega) (by omega) hT.out).mono ?_
      rintro e w2 ⟨rfl, d', S, hs2, hp2, hi2⟩
      have hlen : d'.toList.length = l.length := by simp; omega
      have hO : Ordered l (d'.toList.map (·.1)) := ordered_of (d := tagd l) (by simp [tagd]) hp2 hi2
      have hR2 := R2.out
      have hCI : CI lay w2 (some ⟨g, 0, none⟩) cp (d'.toList.map (·.1)) := reads_of (S.holds hgl hR2.hH hs2) (by omega) hcm (S.lt hgl)
      have hB := below_sort hb1 hgb hgl S
      clear S hp2 hi2 hR2
      go_wp2_with fail
      go_ret2
      exact ⟨_, _, _, rfl, hO, hCI, hB⟩
    · have hl : l = [] := List.eq_nil_of_length_eq_zero (by omega)
      subst hl
      obtain ⟨q, c, rfl, hCI⟩ := hown.form
      clear hown
      go_wp2_with fail
      refine (SN.out q c _).mono ?_; rintro e w2 ⟨rfl, rfl⟩
      go_wp2_with fail
      go_ret2
      exact ⟨q, c, [], rfl, ordered_nil, hCI, hb1⟩
end Go.Proofs.YtaflpdagehocfaaDoor.Srt
