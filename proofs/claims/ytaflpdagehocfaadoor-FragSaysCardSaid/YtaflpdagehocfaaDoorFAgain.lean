/- The contracts of frag.fits and frag.Again. No statement is proved here. -/
import Derived.Test.YtaflpdagehocfaaDoorFCut
import Derived.Shelf.RegionOpenPlain
import Derived.Laws.OwnMore
namespace Go.Proofs.YtaflpdagehocfaaDoor.Part
open Go.ChangeShapes Go.WideShapes Go.ChangeAt Go.RowKit Go.Proofs.YtaflpdagehocfaaDoor.Kit Go.Proofs.YtaflpdagehocfaaDoor.App Go.Proofs.YtaflpdagehocfaaDoor.Cells
set_option linter.unusedVariables false
set_option maxRecDepth 20000

theorem mixedP : Tryd.prog.follows .mixedOrders = true := by kernel_rfl
theorem fits_any (x : Prt) (w : World) (hF : Fits x) (R : Bool) (h : R = right x) :
    Calls Tryd.prog 19 #[val x] w fun e w' => e = .returned (.bool R) ∧ w' = w.alloc (.cells #[.int .i64 x.pos, .bool x.more, .string x.dat] 23) := by
  obtain ⟨a, b, s⟩ := x
  subst h
  have hb := bounds_int hF.1
  have hs : s.size ≤ maxLen := hF.2
  unfold maxLen at hs
  simp only at hb
  unfold val right
  by_cases h1 : 0 ≤ a
  · have t1 : decide (a ≥ 0) = true := decide_eq_true h1
    have t1' : decide (0 ≤ a) = true := decide_eq_true h1
    by_cases h2 : a ≤ 200
    · have t2 : decide (a ≤ 200) = true := decide_eq_true h2
      simp only [t1', t2, Bool.true_and]
      go_enter Tryd.func19, Tryd.ntmps19
      go_wp2_with fail
      go_ret
      exact ⟨rfl, rfl⟩
    · have t2 : decide (a ≤ 200) = false := decide_eq_false h2
      simp only [t1', t2, Bool.true_and, Bool.false_and]
      go_enter Tryd.func19, Tryd.ntmps19
      go_wp2_with fail
      go_ret
      exact ⟨rfl, rfl⟩
  · have t1 : decide (a ≥ 0) = false := decide_eq_false h1
    have t1' : decide (0 ≤ a) = false := decide_eq_false h1
    simp only [t1', Bool.false_and]
    go_enter Tryd.func19, Tryd.ntmps19
    go_wp2_with fail
    go_ret
    exact ⟨rfl, rfl⟩

/-- A part shifted; some of them. -/
def shift (x y : Prt) : Prt := ⟨y.pos + x.pos, y.more, y.dat⟩
def upto (x : Prt) (l : List Prt) (k : Nat) : List Prt := (l.take k).map (shift x) ++ l.drop k
theorem upto_len (x : Prt) (l : List Prt) (k : Nat) : (upto x l k).length = l.length := by
  unfold upto; rw [List.length_append, List.length_map, List.length_take, List.length_drop]; omega
theorem upto_zero (x : Prt) (l : List Prt) : upto x l 0 = l := by simp [upto]
theorem upto_get (x : Prt) (l : List Prt) (k : Nat) (hk : k < l.length) : (upto x l k)[k]? = l[k]? := by
  unfold upto
  rw [List.getElem?_append_right (by rw [List.length_map, List.length_take]; omega), List.length_map, List.length_take, List.getElem?_drop]
  congr 1; omega
theorem upto_succ (x y : Prt) (l : List Prt) (k : Nat) (hy : l[k]? = some y) : (upto x l k).set k ⟨y.pos + x.pos, y.more, y.dat⟩ = upto x l (k + 1) := by
  have hk : k < l.length := by
    rcases Nat.lt_or_ge k l.length with h | h
    · exact h
    · rw [List.getElem?_eq_none h] at hy; cases hy
  unfold upto
  have hl : ((l.take k).map (shift x)).length = k := by rw [List.length_map, List.length_take]; omega
  rw [List.set_append_right _ _ (by omega), hl, Nat.sub_self]
  have hd : l.drop k = y :: l.drop (k + 1) := by
    rw [List.drop_eq_getElem_cons hk]
    rw [List.getElem?_eq_getElem hk] at hy
    rw [Option.some.inj hy]
  rw [hd, List.set_cons_zero, take_one hy, List.map_append, List.append_assoc]
  rfl
theorem all_set0 : ∀ (l : List Prt) (k : Nat) (y : Prt) (p : Int), l[k]? = some y → (lay.all l).set (k * 3) (.int .i64 p) = lay.all (l.set k ⟨p, y.more, y.dat⟩)
  | [], k, y, p, h => by simp at h
  | z :: l, 0, y, p, h => by
    have e : z = y := by simpa using h
    subst e; rfl
  | z :: l, k + 1, y, p, h => by
    have ih := all_set0 l k y p (by simpa using h)
    show (cells z ++ lay.all l).set ((k + 1) * 3) _ = cells z ++ lay.all (l.set k _)
    rw [← ih, List.set_append_right _ _ (by show 3 ≤ _; omega)]
    congr 2
    show (k + 1) * 3 - 3 = k * 3
    omega
theorem all_set1 : ∀ (l : List Prt) (k : Nat) (y : Prt) (m : Bool), l[k]? = some y → (lay.all l).set (k * 3 + 1) (.bool m) = lay.all (l.set k ⟨y.pos, m, y.dat⟩)
  | [], k, y, p, h => by simp at h
  | z :: l, 0, y, p, h => by
    have e : z = y := by simpa using h
    subst e; rfl
  | z :: l, k + 1, y, p, h => by
    have ih := all_set1 l k y p (by simpa using h)
    show (cells z ++ lay.all l).set ((k + 1) * 3 + 1) _ = cells z ++ lay.all (l.set k _)
    rw [← ih, List.set_append_right _ _ (by show 3 ≤ _; omega)]
    congr 2
    show (k + 1) * 3 + 1 - 3 = k * 3 + 1
    omega
theorem oc_set0 {w : World} {base g cap : Nat} {n : Nat} {l : List Prt} (h : OC lay 23 w base (.slice (some ⟨g, 0, none⟩) n cap) l) (hn : n = l.length) (k : Nat) (y : Prt) (hy : l[k]? = some y) (p : Int) :
    OC lay 23 (w.setCell ⟨g, k * 3, none⟩ (.int .i64 p)) base (.slice (some ⟨g, 0, none⟩) n cap) (l.set k ⟨p, y.more, y.dat⟩) := by
  subst hn
  have := (World.ownsRow.stored h (k * 3) (.int .i64 p)).1
  rw [all_set0 l k y p hy] at this
  unfold OC
  rw [List.length_set]
  exact this
theorem oc_set1 {w : World} {base g cap : Nat} {n : Nat} {l : List Prt} (h : OC lay 23 w base (.slice (some ⟨g, 0, none⟩) n cap) l) (hn : n = l.length) (k : Nat) (y : Prt) (hy : l[k]? = some y) (m : Bool) :
    OC lay 23 (w.setCell ⟨g, k * 3 + 1, none⟩ (.bool m)) base (.slice (some ⟨g, 0, none⟩) n cap) (l.set k ⟨y.pos, m, y.dat⟩) := by
  subst hn
  have := (World.ownsRow.stored h (k * 3 + 1) (.bool m)).1
  rw [all_set1 l k y m hy] at this
  unfold OC
  rw [List.length_set]
  exact this
theorem oc_at {w : World} {base g cap n : Nat} {l : List Prt} (h : OC lay 23 w base (.slice (some ⟨g, 0, none⟩) n cap) l) (hn : n = l.length) (k : Nat) (y : Prt) (hy : l[k]? = some y) :
    w.cell? ⟨g, k * 3, none⟩ = some (.int .i64 y.pos) ∧ w.cell? ⟨g, k * 3 + 1, none⟩ = some (.bool y.more) ∧ w.cell? ⟨g, k * 3 + 2, none⟩ = some (.string y.dat) ∧ ∀ j, w.frozen? ⟨g, j, none⟩ = false := by
  subst hn
  have hk : k < l.length := by
    rcases Nat.lt_or_ge k l.length with h | h
    · exact h
    · rw [List.getElem?_eq_none h] at hy; cases hy
  have hkk : k * 3 + 3 ≤ l.length * 3 := by omega
  refine ⟨?_, ?_, ?_, fun j => World.ownsRow.frozenAt h j⟩
  · have := World.ownsRow.cellAt h (k * 3) (show k * 3 < l.length * 3 by omega)
    exact this.trans (lay.all_get l k y hy 0 (by show 0 < 3; omega))
  · have := World.ownsRow.cellAt h (k * 3 + 1) (show k * 3 + 1 < l.length * 3 by omega)
    exact this.trans (lay.all_get l k y hy 1 (by show 1 < 3; omega))
  · have := World.ownsRow.cellAt h (k * 3 + 2) (show k * 3 + 2 < l.length * 3 by omega)
    exact this.trans (lay.all_get l k y hy 2 (by show 2 < 3; omega))
/-- All of them shifted, and the last one's mark. -/
theorem moved_all (x : Prt) (s : ByteArray) (n : Nat) (y : Prt) (hy : (upto x (parts s n) (more s n + 1))[more s n]? = some y) : (upto x (parts s n) (more s n + 1)).set (more s n) ⟨y.pos, x.more, y.dat⟩ = (parts s n).map (moved x) := by
  have hu : upto x (parts s n) (more s n + 1) = (parts s n).map (shift x) := by
    unfold upto
    rw [List.take_of_length_le (by rw [parts_len]; omega), List.drop_eq_nil_of_le (by rw [parts_len]; omega), List.append_nil]
  rw [hu] at hy ⊢
  apply List.ext_getElem?
  intro j
  rw [List.getElem?_set, List.getElem?_map, List.length_map, parts_len]
  rw [List.getElem?_map, parts_last] at hy
  have hy' : shift x (tail s n (more s n)) = y := by simpa using hy
  by_cases h1 : more s n = j
  · subst h1
    rw [if_pos rfl, if_pos (by omega), List.getElem?_map, parts_last, ← hy']
    show some _ = some _
    unfold moved shift tail
    simp [Int.add_comm]
  · rw [if_neg h1, List.getElem?_map]
    rcases Nat.lt_trichotomy j (more s n) with h2 | h2 | h2
    · rw [parts_get s n j h2]
      show some _ = some _
      unfold moved shift piece
      simp [Int.add_comm]
    · exact absurd h2.symm h1
    · rw [List.getElem?_eq_none (by rw [parts_len]; omega)]; rfl
theorem below_setC {W w : World} {base g cap n : Nat} {l : List Prt} (hb : Below base W w) (hown : OC lay 23 w base (.slice (some ⟨g, 0, none⟩) n cap) l) (j : Nat) (u : Value) : Below base W (w.setCell ⟨g, j, none⟩ u) :=
  hb.setCell (p := ⟨g, j, none⟩) (hown.lt g rfl).1 u

set_option maxHeartbeats 1000000 in
theorem fagain_some (x : Prt) (n : Nat) (w : World) (hF : Fits x) (hr : right x = true) (hn : 0 < n) (hn2 : n ≤ 200) (h40 : more x.dat n < 40) :
    Calls Tryd.prog 10 #[val x, .int .i64 n] w fun e w' => ∃ v, e = .returned (.tuple #[v, .nilIface]) ∧ OC lay 23 w' w.heap.size v ((parts x.dat n).map (moved x)) ∧ Below w.heap.size w w' := by
  have FI := Lib.hid (fun W => fits_any x W hF true hr.symm)
  have hmix := mixedP
  obtain ⟨a, b, s⟩ := x
  have hr' : (0 ≤ a ∧ a ≤ 200) ∧ (s.size : Int) ≤ 200 - a := by simpa [right] using hr
  obtain ⟨⟨h1, h2⟩, h3⟩ := hr'
  have h4 : s.size ≤ 200 := by omega
  have CUT := Lib.hid (fun W => fcut_some s n W h4 hn hn2 h40)
  unfold val at FI ⊢
  simp only at FI h40 ⊢
  go_enter Tryd.func10, Tryd.ntmps10
  go_wp2_with fail
  refine (FI.out _).mono ?_; rintro e w1 ⟨rfl, hw1⟩
  have hB1 : Below w.heap.size w w1 := by rw [hw1]; exact balloc (balloc (brefl w) _) _
  have bx1 : Box w1 w.heap.size ⟨a, b, s⟩ := by rw [hw1]; exact (Box.new w ⟨a, b, s⟩ 23).below (balloc (brefl _) _) (by simp)
  clear hw1
  have BX1 := Lib.hid bx1
  obtain ⟨hbx, c0, c1, c2⟩ := bx1
  simp only at c0 c1 c2
  go_wp2_with fail
  refine (CUT.out _).mono ?_; rintro e w2 ⟨v, rfl, hown, hb2⟩
  obtain ⟨L, hL⟩ : ∃ L, parts s n = L := ⟨_, rfl⟩
  have hLl : L.length = more s n + 1 := by rw [← hL]; exact parts_len s n
  obtain ⟨mm, hmm⟩ : ∃ mm, more s n = mm := ⟨_, rfl⟩
  rw [hmm] at h40 hLl
  rw [hL] at hown
  have HL := Lib.hid (And.intro hL hmm)
  have hpos : Hid (∀ (k : Nat) (y : Prt), L[k]? = some y → 0 ≤ y.pos ∧ y.pos ≤ s.size) := fun k y hy => parts_pos s n hn y (by rw [hL]; exact List.mem_of_getElem? hy)
  clear hL hmm
  obtain ⟨g, cp, rfl⟩ : ∃ g cp, v = .slice (some ⟨g, 0, none⟩) L.length cp := by
    obtain ⟨_, ⟨rfl, hz⟩ | ⟨g, cp, cur, rfl, _⟩⟩ := hown
    · omega
    · exact ⟨g, cp, rfl⟩
  obtain ⟨ln, hln⟩ : ∃ ln, L.length = ln := ⟨_, rfl⟩
  rw [hln] at hown hLl ⊢
  subst hLl
  have HLN := Lib.hid hln
  have bx2 := BX1.out.below hb2 hbx
  have BX2 := Lib.hid bx2
  obtain ⟨_, d0, d1, d2⟩ := bx2
  simp only at d0 d1 d2
  clear c0 c1 c2 hln CUT FI
  go_wp2_with fail
  go_loopw [25] (fun iv wr => ∃ k : Nat, k ≤ mm + 1 ∧ iv = .int .i64 k ∧ OC lay 23 wr w1.heap.size (.slice (some ⟨g, 0, none⟩) (mm + 1) cp) (upto ⟨a, b, s⟩ L k) ∧ Below w1.heap.size w1 wr) (fun i _ => mm + 1 - (intOf i).toNat)
  case atStart => exact ⟨0, Nat.zero_le _, rfl, by rw [upto_zero]; exact hown, hb2⟩
  case round =>
    obtain ⟨k, hk, rfl, hown, hB⟩ := hrel
    have bx3 := BX1.out.below hB hbx
    obtain ⟨_, e0, e1, e2⟩ := bx3
    simp only at e0 e1 e2
    clear d0 d1 d2
    by_cases hlt : k < mm + 1
    · have s0 : decide ((k : Int) < (mm : Int) + 1) = true := decide_eq_true (by omega)
      have hkl : k < L.length := by have := HLN.out; omega
      obtain ⟨⟨yp, ym, ys⟩, hy⟩ : ∃ y, L[k]? = some y := ⟨_, List.getElem?_eq_getElem hkl⟩
      have hyp := hpos.out k _ hy
      simp only at hyp
      have hy2 := (upto_get ⟨a, b, s⟩ L k hkl).trans hy
      obtain ⟨f0, f1, f2, f3⟩ := oc_at hown (by rw [upto_len]; exact HLN.out.symm) k _ hy2
      have f4 := f3 (k * 3)
      simp only at f0 f1 f2
      have hst := oc_set0 hown (by rw [upto_len]; exact HLN.out.symm) k _ hy2 (yp + a)
      have HS := Lib.hid hst.drew
      have hbs : Below w1.heap.size w1 (wr.setCell ⟨g, k * 3, none⟩ (.int .i64 (yp + a))).drew := (below_setC hB hown _ _).drew
      have HBS := Lib.hid hbs
      have HY := Lib.hid hy
      have wr1 : IntKind.i64.wrap (yp + a) = yp + a := by rw [IntKind.wrap_i64]; omega
      clear f3 hst hbs hy hy2 hown hB
      go_wp2_with fail
      go_big_region_o
      go_wp2_with fail
      go_roundw
      case rel => exact ⟨k + 1, by omega, by first | rfl | go_num, by rw [← upto_succ ⟨a, b, s⟩ _ L k HY.out]; exact HS.out, HBS.out⟩
      case measure => simp [intOf]; omega
    · have s0 : decide ((k : Int) < (mm : Int) + 1) = false := decide_eq_false (by omega)
      obtain rfl : k = mm + 1 := by omega
      obtain ⟨y, hy⟩ : ∃ y, (upto ⟨a, b, s⟩ L (mm + 1))[mm]? = some y := ⟨_, List.getElem?_eq_getElem (by rw [upto_len, HLN.out]; omega)⟩
      obtain ⟨f0, f1, f2, f3⟩ := oc_at hown (by rw [upto_len]; exact HLN.out.symm) mm _ hy
      have f4 := f3 (mm * 3 + 1)
      have hst := oc_set1 hown (by rw [upto_len]; exact HLN.out.symm) mm _ hy b
      have hfin : (upto ⟨a, b, s⟩ L (mm + 1)).set mm ⟨y.pos, b, y.dat⟩ = (parts s n).map (moved ⟨a, b, s⟩) := by
        obtain ⟨q1, q2⟩ := HL.out
        rw [← q1, ← q2] at hy ⊢
        exact moved_all ⟨a, b, s⟩ s n y hy
      rw [hfin] at hst
      have HS := Lib.hid (hst.mono hB1.size)
      have HBS := Lib.hid (bcall hB1 (below_setC hB hown (mm * 3 + 1) (.bool b)))
      clear f3 hst hy hown hB hfin
      go_wp2_with fail
      go_ret2
      exact ⟨_, rfl, HS.out, HBS.out⟩

set_option maxHeartbeats 1000000 in
theorem fagain_wrong (x : Prt) (n : Int) (w : World) (hF : Fits x) (hr : right x = false) :
    Calls Tryd.prog 10 #[val x, .int .i64 n] w fun e w' => e = .returned (.tuple #[.slice none 0 0, .iface 44 (.int .i64 1)]) ∧ Below w.heap.size w w' := by
  have FI := Lib.hid (fun W => fits_any x W hF false hr.symm)
  obtain ⟨a, b, s⟩ := x
  unfold val at FI ⊢
  simp only at FI ⊢
  go_enter Tryd.func10, Tryd.ntmps10
  go_wp2_with fail
  refine (FI.out _).mono ?_; rintro e w1 ⟨rfl, hw1⟩
  have hB1 : Below w.heap.size w w1 := by rw [hw1]; exact balloc (balloc (brefl w) _) _
  clear hw1
  go_wp2_with fail
  go_ret2
  exact ⟨rfl, hB1⟩
set_option maxHeartbeats 1000000 in
theorem fagain_bad (x : Prt) (n m : Int) (w : World) (hF : Fits x) (hr : right x = true) (hc : cutBad x.dat n = m) (h0 : m ≠ 0) :
    Calls Tryd.prog 10 #[val x, .int .i64 n] w fun e w' => e = .returned (.tuple #[.slice none 0 0, .iface 44 (.int .i64 m)]) ∧ Below w.heap.size w w' := by
  have FI := Lib.hid (fun W => fits_any x W hF true hr.symm)
  obtain ⟨a, b, s⟩ := x
  have CUT := Lib.hid (fun W => fcut_bad s n W m hc h0)
  unfold val at FI ⊢
  simp only at FI ⊢
  go_enter Tryd.func10, Tryd.ntmps10
  go_wp2_with fail
  refine (FI.out _).mono ?_; rintro e w1 ⟨rfl, hw1⟩
  have hB1 : Below w.heap.size w w1 := by rw [hw1]; exact balloc (balloc (brefl w) _) _
  have bx1 : Box w1 w.heap.size ⟨a, b, s⟩ := by rw [hw1]; exact (Box.new w ⟨a, b, s⟩ 23).below (balloc (brefl _) _) (by simp)
  clear hw1
  obtain ⟨hbx, c0, c1, c2⟩ := bx1
  simp only at c0 c1 c2
  clear hc
  go_wp2_with fail
  refine (CUT.out _).mono ?_; rintro e w2 ⟨rfl, rfl⟩
  clear CUT FI
  go_wp2_with fail
  go_ret2
  exact ⟨rfl, hB1⟩
end Go.Proofs.YtaflpdagehocfaaDoor.Part
