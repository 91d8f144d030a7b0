/- Package learn: entries, how they lie in memory; slices.IndexFunc and slices.DeleteFunc at them, with any function that holds a block. No statement is proved here. -/
import Derived.Test.YtbgbmchpikdgoaaDoorCellsRow
import Derived.Test.YtbgbmchpikdgoaaDoorErr
import Derived.Test.YtbgbmchpikdgoaaDoorBlk
import Derived.Test.YtbgbmchpikdgoaaDoorLearnMath
import Derived.ChangeMaps5
import Derived.Shelf.Abstract
namespace Go.Proofs.YtbgbmchpikdgoaaDoor.Learn
open Go.ChangeShapes Go.WideShapes Go.ChangeAt Go.RowKit Go.Proofs.YtbgbmchpikdgoaaDoor.Kit Go.Proofs.YtbgbmchpikdgoaaDoor.App Go.Proofs.YtbgbmchpikdgoaaDoor.Cells Go.Proofs.YtbgbmchpikdgoaaDoor.Err
set_option linter.unusedVariables false
set_option maxRecDepth 20000
set_option maxHeartbeats 1000000

def lay : Lay E := ⟨fun x => [.int .i64 x.1, .int .i64 x.2], 2, by decide, fun _ => rfl, fun x v hv => by
  simp only [List.mem_cons, List.not_mem_nil, or_false] at hv
  rcases hv with rfl | rfl <;> rfl⟩
theorem tyE : Ty lay 47 52 16 := ⟨Tryd.underlying47, by
  have h : (Tryd.prog.info? 52).map (fun i => (i.zero, i.size, i.bytes)) = some (some (.agg #[.int .i64 0, .int .i64 0]), 2, 16) := by kernel_rfl
  obtain ⟨i, hi, hz⟩ := Option.map_eq_some_iff.1 h
  simp only [Prod.mk.injEq] at hz
  exact ⟨i, _, hi, hz.1, hz.2.1, hz.2.2, rfl⟩, by decide⟩
theorem zeroE (w : World) : (zeroValue 52).run Tryd.prog w = .ok (.agg #[.int .i64 0, .int .i64 0]) w := by kernel_rfl
abbrev OE (w : World) (base : Nat) (v : Value) (l : List E) : Prop := OC lay 52 w base v l
theorem all_cons (x : E) (l : List E) : lay.all (x :: l) = .int .i64 x.1 :: .int .i64 x.2 :: lay.all l := rfl
theorem all_set : ∀ (l : List E) (k : Nat) (y : E), ((lay.all l).set (k * 2) (.int .i64 y.1)).set (k * 2 + 1) (.int .i64 y.2) = lay.all (l.set k y)
  | [], k, y => by simp [Lay.all]
  | x :: l, 0, y => rfl
  | x :: l, k + 1, y => by
    rw [all_cons, List.set_cons_succ, all_cons, show (k + 1) * 2 = k * 2 + 1 + 1 by omega, List.set_cons_succ, List.set_cons_succ, List.set_cons_succ, List.set_cons_succ, all_set l k y]
variable {w w' : World} {base g n cap : Nat} {l : List E}
theorem oe_set (h : OE w base (.slice (some ⟨g, 0, none⟩) n cap) l) (hn : n = l.length) (k : Nat) (y : E) :
    OE ((w.setCell ⟨g, k * 2, none⟩ (.int .i64 y.1)).setCell ⟨g, k * 2 + 1, none⟩ (.int .i64 y.2)) base (.slice (some ⟨g, 0, none⟩) n cap) (l.set k y) := by
  subst hn
  have h1 := (World.ownsRow.stored h (k * 2) (.int .i64 y.1)).1
  have h2 := (World.ownsRow.stored h1 (k * 2 + 1) (.int .i64 y.2)).1
  rw [all_set] at h2
  unfold OE OC
  rw [List.length_set]
  exact h2
theorem set2_grown (w : World) (g k : Nat) (a b : Value) : w.grownBy ((w.setCell ⟨g, k, none⟩ a).setCell ⟨g, k + 1, none⟩ b) (some g) := grown_set (set_grown w g k a) (k + 1) b
theorem oe_at (h : OE w base (.slice (some ⟨g, 0, none⟩) n cap) l) (hn : n = l.length) (k : Nat) (y : E) (hy : l[k]? = some y) :
    w.cell? ⟨g, k * 2, none⟩ = some (.int .i64 y.1) ∧ w.cell? ⟨g, k * 2 + 1, none⟩ = some (.int .i64 y.2) ∧ ∀ j, w.frozen? ⟨g, j, none⟩ = false := by
  subst hn
  have hk : k < l.length := by
    rcases Nat.lt_or_ge k l.length with h | h
    · exact h
    · rw [List.getElem?_eq_none h] at hy; cases hy
  refine ⟨?_, ?_, fun j => World.ownsRow.frozenAt h j⟩
  · have := World.ownsRow.cellAt h (k * 2) (show k * 2 < l.length * 2 by omega)
    exact this.trans (lay.all_get l k y hy 0 (by show 0 < 2; omega))
  · have := World.ownsRow.cellAt h (k * 2 + 1) (show k * 2 + 1 < l.length * 2 by omega)
    exact this.trans (lay.all_get l k y hy 1 (by show 1 < 2; omega))
theorem oe_caps (h : OE w base (.slice (some ⟨g, 0, none⟩) n cap) l) : n = l.length ∧ n ≤ cap ∧ cap ≤ 9223372036854775807 := by
  obtain ⟨hl, ⟨e1, _⟩ | ⟨g', cap', cur, e1, hb, hh, hnc, hcm, hcs, ht⟩⟩ := h
  · cases e1
  · injection e1 with e1 e2 e3
    unfold maxLen at hcm
    omega
theorem gtrans {a b c : World} {g : Option Nat} (h : a.grownBy b g) (h2 : b.grownBy c g) : a.grownBy c g :=
  ⟨h2.os.trans h.os, h2.tape.trans h.tape, h2.output.trans h.output, Nat.le_trans h.size h2.size, fun k hk hne => (h2.block k (Nat.lt_of_lt_of_le hk h.size) hne).trans (h.block k hk hne)⟩
theorem gbel {a b : World} {g : Option Nat} (h : Below a.heap.size a b) : a.grownBy b g := ⟨h.os, h.tape, h.output, h.size, fun k hk _ => h.block k hk⟩

/-- The function f with block b answers T of the entries of l, in every world of K, and makes at most memory. -/
def Asks (K : World → Prop) (f : FuncId) (b : Nat) (T : E → Bool) (l : List E) : Prop :=
  ∀ W x, K W → x ∈ l → Calls Tryd.prog f #[.agg #[.int .i64 x.1, .int .i64 x.2], .pointer (some ⟨b, 0, none⟩)] W fun e w' => e = .returned (.bool (T x)) ∧ Below W.heap.size W w'
theorem index_any (K : World → Prop) (f : FuncId) (b : Nat) (T : E → Bool) (p : Option Addr) (cap n : Nat) (l : List E) (w : World) (hE : Enters Tryd.prog f) (hK : ∀ W, Below w.heap.size w W → K W) (hA : Asks K f b T l) (hn : n = l.length) (hi : CI lay w p cap l) :
    Calls Tryd.prog 25 #[.slice p n cap, .func (.func f) #[] #[.pointer (some ⟨b, 0, none⟩)]] w fun e w' => (∃ r : Int, e = .returned (.int .i64 r) ∧ ((r = -1 ∧ ∀ x ∈ l, T x = false) ∨ ∃ (k : Nat) (x : E), r = (k : Int) ∧ k < n ∧ l[k]? = some x ∧ T x = true ∧ ∀ x ∈ l.take k, T x = false)) ∧ Below w.heap.size w w' := by
  have hlen := hi.len_le
  have HI := Lib.hid hi
  have HA := Lib.hid hA
  have HK := Lib.hid hK
  have HN := Lib.hid hn
  clear hi hA hK
  rw [← hn] at hlen
  clear hn
  have e199 : ∀ (args : Array Value) (w : World), (callFunc f args).run Tryd.prog w = .ok (.enter f args) w := hE
  go_enter Tryd.func25, Tryd.ntmps25
  go_wp2_with fail
  go_loopw [8] (fun iv wr => ∃ k : Nat, k ≤ n ∧ iv = .int .i64 k ∧ Hid (Below w.heap.size w wr) ∧ Hid (∀ x ∈ l.take k, T x = false)) (fun i _ => n - (intOf i).toNat)
  case atStart => exact ⟨0, Nat.zero_le _, rfl, Lib.hid (brefl w), Lib.hid (by simp)⟩
  case round =>
    obtain ⟨k, hk, rfl, HW, H⟩ := hrel
    by_cases hlt : k < n
    · have u1 : decide ((k : Int) < (n : Int)) = true := decide_eq_true (by omega)
      have hkl : k < l.length := by rw [← HN.out]; exact hlt
      have HKW := Lib.hid (HK.out wr HW.out)
      obtain ⟨x, hx⟩ : ∃ x, l[k]? = some x := ⟨_, List.getElem?_eq_getElem hkl⟩
      obtain ⟨b0, off, rfl, _, hc⟩ := (HI.out.below HW.out).2.2 (by omega)
      have hc1 := hc k x hx 0 _ rfl
      have hc2 := hc k x hx 1 _ rfl
      have hc1 : wr.cell? ⟨b0, off + k * 2, none⟩ = some (.int .i64 x.1) := hc1
      have hc2 : wr.cell? ⟨b0, off + k * 2 + 1, none⟩ = some (.int .i64 x.2) := hc2
      have HT := Lib.hid (show l.take (k + 1) = l.take k ++ [x] by rw [List.take_add_one, hx]; rfl)
      have C := Lib.hid (HA.out wr x HKW.out (List.mem_of_getElem? hx))
      have HX := Lib.hid hx
      clear hc hkl hx
      obtain ⟨R, hR⟩ : ∃ R, T x = R := ⟨_, rfl⟩
      rw [hR] at C
      have HR := Lib.hid hR
      clear hR
      obtain ⟨x1, x2⟩ := x
      cases R with
      | true =>
        go_wp2_with (go_at_fn f; refine C.out.mono ?_; rintro e w1 ⟨rfl, hw1⟩; have HW1 := Lib.hid hw1; clear hw1)
        go_ret
        exact ⟨⟨k, rfl, .inr ⟨k, _, rfl, hlt, HX.out, HR.out, H.out⟩⟩, bcall HW.out HW1.out⟩
      | false =>
        go_wp2_with (go_at_fn f; refine C.out.mono ?_; rintro e w1 ⟨rfl, hw1⟩; have HW1 := Lib.hid hw1; clear hw1)
        go_roundw
        case rel => exact ⟨k + 1, by omega, by first | rfl | go_num, Lib.hid (bcall HW.out HW1.out), Lib.hid (by
          rw [HT.out]
          intro y hy
          rcases List.mem_append.1 hy with h | h
          · exact H.out y h
          · simp at h; rw [h]; exact HR.out)⟩
        case measure => simp [intOf]; omega
    · obtain rfl : k = n := by omega
      have u1 : decide ((k : Int) < (k : Int)) = false := decide_eq_false (by omega)
      go_wp2_with fail
      go_ret
      exact ⟨⟨-1, rfl, .inl ⟨rfl, fun x hx => H.out x (by rw [List.take_of_length_le (by rw [HN.out]; exact Nat.le_refl _)]; exact hx)⟩⟩, HW.out⟩

/-- The entries that the test does not hit. -/
def less (T : E → Bool) (l : List E) : List E := l.filter fun x => !T x
theorem less_none {T : E → Bool} {l : List E} (h : ∀ x ∈ l, T x = false) : less T l = l := by
  unfold less
  rw [List.filter_eq_self]
  intro x hx
  rw [h x hx]; rfl
theorem less_app (T : E → Bool) (l m : List E) : less T (l ++ m) = less T l ++ less T m := List.filter_append _ _
theorem set_takeE {L : List E} {k : Nat} (h : k < L.length) (x : E) : (L.set k x).take (k + 1) = L.take k ++ [x] := by
  rw [List.take_add_one, List.getElem?_set, if_pos rfl, if_pos h, List.take_set_of_le (Nat.le_refl _)]
  rfl
theorem delete_row (f : FuncId) (b : Nat) (T : E → Bool) (base g n cap : Nat) (l : List E) (w : World) (hE : Enters Tryd.prog f) (hA : Asks (fun W => w.grownBy W (some g)) f b T l) (hr : OE w base (.slice (some ⟨g, 0, none⟩) n cap) l) :
    Calls Tryd.prog 19 #[.slice (some ⟨g, 0, none⟩) n cap, .func (.func f) #[] #[.pointer (some ⟨b, 0, none⟩)]] w fun e w' => (∃ m : Nat, e = .returned (.slice (some ⟨g, 0, none⟩) m cap) ∧ OE w' base (.slice (some ⟨g, 0, none⟩) m cap) (less T l)) ∧ w.grownBy w' (some g) := by
  obtain ⟨hn, hcn, hm⟩ := oe_caps hr
  have hci : CI lay w (some ⟨g, 0, none⟩) cap l := by
    obtain ⟨p, c, e, h⟩ := hr.form
    injection e with e1 e2 e3
    subst e3
    rw [e1]
    exact h
  have IX := Lib.hid (index_any (fun W => w.grownBy W (some g)) f b T _ cap n l w hE (fun W hW => gbel hW) hA hn hci)
  have e199 : ∀ (args : Array Value) (w : World), (callFunc f args).run Tryd.prog w = .ok (.enter f args) w := hE
  have HA := Lib.hid hA
  have HR := Lib.hid hr
  have HN := Lib.hid hn
  have hcl := fun (w : World) (m k c : Nat) (L : List E) (ho : OE w base (.slice (some ⟨g, 0, none⟩) n cap) L) (h1 : m + k = L.length) (h2 : 0 < k) => run_clearC tyE w base g n cap m m k c L _ zeroE rfl (by decide) ho (Nat.le_refl _) (by omega) (by have := oe_caps ho; omega) h2
  have HCL := Lib.hid hcl
  clear hr hn hA hE hci hcl
  go_enter Tryd.func19, Tryd.ntmps19
  go_wp2_with fail
  refine IX.out.mono ?_; rintro e w2 ⟨⟨r, rfl, hr⟩, hw2⟩
  have HW2 := Lib.hid hw2
  clear IX hw2
  rcases hr with ⟨rfl, hnone⟩ | ⟨r, x, rfl, hrn, hrx, hri, hrt⟩
  · have HL := Lib.hid (less_none hnone)
    clear hnone
    go_wp2_with fail
    go_ret
    exact ⟨⟨n, rfl, by rw [HL.out]; exact HR.out.below HW2.out⟩, gbel HW2.out⟩
  · have t0 : ((r : Int) == -1) = false := by rw [beq_eq_false_iff_ne]; omega
    have HT := Lib.hid (show less T (l.take (r + 1)) = l.take r by
      rw [List.take_add_one, hrx, less_app, less_none hrt]
      simp [less, hri])
    have HS := Lib.hid (show OE w2 base (.slice (some ⟨g, 0, none⟩) n cap) l ∧ w.grownBy w2 (some g) from ⟨HR.out.below HW2.out, gbel HW2.out⟩)
    clear hri hrt hrx
    go_wp2_with fail
    go_loopw [5, 6] (fun iv jv wr => ∃ k j : Nat, iv = .int .i64 (k : Int) ∧ jv = .int .i64 (j : Int) ∧ k < j ∧ j ≤ n ∧ Hid (∃ L : List E, L.length = n ∧ L.take k = less T (l.take j) ∧ (∀ t : Nat, j ≤ t → L[t]? = l[t]?) ∧ OE wr base (.slice (some ⟨g, 0, none⟩) n cap) L) ∧ Hid (w.grownBy wr (some g))) (fun _ j _ => n - (intOf j).toNat)
    case atStart => exact ⟨r, r + 1, rfl, by first | rfl | go_num, by omega, by omega, Lib.hid ⟨l, HN.out.symm, HT.out.symm, fun _ _ => rfl, HS.out.1⟩, Lib.hid HS.out.2⟩
    case round =>
      obtain ⟨k, j, rfl, rfl, hkj, hj, HL, HG⟩ := hrel
      obtain ⟨L, hL1, hL2, hL3, hL4⟩ := HL.out
      by_cases hjn : j < n
      · have t1 : decide ((j : Int) < (n : Int)) = true := decide_eq_true (by omega)
        have hjL : j < l.length := by rw [← HN.out]; omega
        obtain ⟨y, hy⟩ : ∃ y, l[j]? = some y := ⟨_, List.getElem?_eq_getElem hjL⟩
        obtain ⟨hc1, hc2, hf2⟩ := oe_at hL4 hL1.symm j y ((hL3 j (Nat.le_refl _)).trans hy)
        have ht : l.take (j + 1) = l.take j ++ [y] := by rw [List.take_add_one, hy]; rfl
        have C := Lib.hid (fun W (h : w.grownBy W (some g)) => HA.out W y h (List.mem_of_getElem? hy))
        obtain ⟨R, hR⟩ : ∃ R, T y = R := ⟨_, rfl⟩
        rw [hR] at C
        obtain ⟨y1, y2⟩ := y
        have HGA := Lib.hid (gtrans HG.out (World.grownBy_alloc wr (.cells #[.int .i64 y1, .int .i64 y2] 52) (some g)))
        cases R with
        | true =>
          have HREL := Lib.hid (show ∀ W, Below wr.heap.size wr W → ∃ L : List E, L.length = n ∧ L.take k = less T (l.take (j + 1)) ∧ (∀ t : Nat, j + 1 ≤ t → L[t]? = l[t]?) ∧ OE W base (.slice (some ⟨g, 0, none⟩) n cap) L from fun W hW => ⟨L, hL1, by rw [ht, less_app, hL2]; simp [less, hR], fun t h => hL3 t (by omega), hL4.below hW⟩)
          clear hL1 hL2 hL3 hL4 ht hf2 hjL hR
          go_wp2_with (go_at_fn f; refine (C.out _ HGA.out).mono ?_; rintro e w3 ⟨rfl, hw3⟩; have HW3 := Lib.hid (bcall (balloc (brefl wr) _) hw3); clear hw3)
          go_roundw
          case rel => exact ⟨k, j + 1, rfl, by first | rfl | go_num, by omega, by omega, Lib.hid (HREL.out _ HW3.out), Lib.hid (gtrans HG.out (gbel HW3.out))⟩
          case measure => simp [intOf]; omega
        | false =>
          have HREL := Lib.hid (show ∀ W, Below wr.heap.size wr W → ∃ M : List E, M.length = n ∧ M.take (k + 1) = less T (l.take (j + 1)) ∧ (∀ t : Nat, j + 1 ≤ t → M[t]? = l[t]?) ∧ OE ((W.setCell ⟨g, k * 2, none⟩ (.int .i64 y1)).setCell ⟨g, k * 2 + 1, none⟩ (.int .i64 y2)) base (.slice (some ⟨g, 0, none⟩) n cap) M from
            fun W hW => ⟨L.set k (y1, y2), by rw [List.length_set]; exact hL1, by rw [set_takeE (by omega), ht, less_app, hL2]; simp [less, hR], fun t h => by rw [List.getElem?_set, if_neg (by omega)]; exact hL3 t (by omega), oe_set (hL4.below hW) hL1.symm k (y1, y2)⟩)
          have HOLD := Lib.hid (show ∀ W, Below wr.heap.size wr W → ∃ z : E, W.cell? ⟨g, k * 2, none⟩ = some (.int .i64 z.1) ∧ W.cell? ⟨g, k * 2 + 1, none⟩ = some (.int .i64 z.2) ∧ ∀ j, W.frozen? ⟨g, j, none⟩ = false from
            fun W hW => ⟨L[k]'(by omega), oe_at (hL4.below hW) hL1.symm k _ (List.getElem?_eq_getElem (by omega))⟩)
          have HV := Lib.hid (Blk.new wr 52 [.int .i64 y1, .int .i64 y2])
          have hkn : (k : Int) < (n : Int) := by omega
          clear hL1 hL2 hL3 hL4 ht hf2 hjL hR
          go_wp2_with (go_at_fn f; refine (C.out _ HGA.out).mono ?_; rintro e w3 ⟨rfl, hw3⟩; have hv := HV.out.below hw3; have hv1 := hv.cell 0 _ rfl; have hv2 := hv.cell 1 _ rfl; have HW3 := Lib.hid (bcall (balloc (brefl wr) _) hw3); obtain ⟨z, hz1, hz2, hz3⟩ := HOLD.out _ HW3.out; have hz4 := hz3 (k * 2); have hz5 := hz3 (k * 2 + 1); clear hw3 hv hz3)
          go_roundw
          case rel => exact ⟨k + 1, j + 1, by first | rfl | go_num, by first | rfl | go_num, by omega, by omega, Lib.hid (HREL.out _ HW3.out), Lib.hid (gtrans (gtrans HG.out (gbel HW3.out)) (set2_grown _ g (k * 2) _ _))⟩
          case measure => simp [intOf]; omega
      · obtain rfl : j = n := by omega
        have t1 : decide ((j : Int) < (j : Int)) = false := decide_eq_false (by omega)
        rw [show l.take j = l from List.take_of_length_le (by have := HN.out; omega)] at hL2
        obtain ⟨w9, hcl, hown, hg9⟩ := HCL.out wr k (j - k) (cap - k) L hL4 (by omega) (by omega)
        have hcl : ∀ ty, (Builtin.clear_ #[47] ty #[.slice (some ⟨g, k * 2, none⟩) (j - k) (cap - k)]).run Tryd.prog wr = .ok (.tuple #[]) w9 := hcl
        rw [hL2] at hown
        have HOWN := Lib.hid hown
        have HG3 := Lib.hid (gtrans HG.out hg9)
        clear hL1 hL2 hL3 hL4 hown hg9 HL
        go_wp2_with fail
        go_ret
        exact ⟨⟨k, rfl, HOWN.out⟩, HG3.out⟩
end Go.Proofs.YtbgbmchpikdgoaaDoor.Learn
