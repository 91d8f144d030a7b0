/- Package wheel: slices.DeleteFunc with the closure of Stop. No statement is proved here. -/
import Derived.Test.YtjknojfdlpgicaaDoorWheel1
import Derived.Lib.SliceRun
namespace Go.Proofs.YtjknojfdlpgicaaDoor.Wheel
open Go.ChangeShapes Go.WideShapes Go.ChangeAt Go.RowKit Go.Proofs.YtjknojfdlpgicaaDoor.Kit Go.Proofs.YtjknojfdlpgicaaDoor.App Go.Proofs.YtjknojfdlpgicaaDoor.Queue Go.Proofs.YtjknojfdlpgicaaDoor.MapZ Go.Proofs.YtjknojfdlpgicaaDoor.WheelMath
set_option linter.unusedVariables false
set_option maxRecDepth 20000
set_option maxHeartbeats 1000000

/-- From place off of block g on lie the numbers l. -/
def RowQ (w : World) (g off cap : Nat) (l : List Int) : Prop :=
  (∀ x ∈ l, (Lit.int .i64 x).wf = true) ∧ ∃ cur : Array Value, w.heap[g]? = some (.cells cur 3) ∧ l.length ≤ cap ∧ cap ≤ maxLen ∧ off + cap ≤ cur.size ∧ ∀ j : Nat, j < l.length → cur[off + j]? = some (.int .i64 (l[j]?.getD 0))
variable {w w' : World} {g off cap : Nat} {l : List Int}
theorem RowQ.own (h : RowQ w g off cap l) (base : Nat) (hb : base ≤ g) : OwnQ w base (.slice (some ⟨g, off, none⟩) l.length cap) l := by
  obtain ⟨h1, cur, h2, h3, h4, h5, h6⟩ := h
  exact ⟨h1, .inr ⟨g, off, cap, cur, rfl, hb, h2, h3, h4, h5, h6⟩⟩
theorem row_of {base n : Nat} {p : Option Addr} (h : OwnQ w base (.slice p n cap) l) (hl : l ≠ []) : ∃ g off, p = some ⟨g, off, none⟩ ∧ n = l.length ∧ RowQ w g off cap l := by
  obtain ⟨h1, ⟨e, rfl⟩ | ⟨g, off, cap', cur, e, hb, h2, h3, h4, h5, h6⟩⟩ := h
  · exact absurd rfl hl
  · injection e with e1 e2 e3
    subst e3
    exact ⟨g, off, e1, e2, h1, cur, h2, h3, h4, h5, h6⟩
theorem RowQ.lt (h : RowQ w g off cap l) : g < w.heap.size := by
  obtain ⟨h1, cur, h2, _⟩ := h
  exact (Array.getElem?_eq_some_iff.1 h2).1
theorem RowQ.cell (h : RowQ w g off cap l) {j : Nat} (hj : j < l.length) : w.cell? ⟨g, off + j, none⟩ = some (.int .i64 (l[j]?.getD 0)) := by
  obtain ⟨h1, cur, h2, h3, h4, h5, h6⟩ := h
  unfold World.cell?
  rw [h2]
  exact h6 j hj
theorem RowQ.fz (h : RowQ w g off cap l) (k : Nat) : w.frozen? ⟨g, k, none⟩ = false := by
  obtain ⟨h1, cur, h2, _⟩ := h
  unfold World.frozen?
  rw [h2]
  simp
theorem RowQ.room (h : RowQ w g off cap l) {j : Nat} (hj : j < cap) : (w.cell? ⟨g, off + j, none⟩).isSome = true := by
  obtain ⟨h1, cur, h2, h3, h4, h5, h6⟩ := h
  unfold World.cell?
  rw [h2]
  simp
  omega
theorem RowQ.caps (h : RowQ w g off cap l) : l.length ≤ cap ∧ cap ≤ maxLen := by
  obtain ⟨h1, cur, h2, h3, h4, h5, h6⟩ := h
  exact ⟨h3, h4⟩
theorem RowQ.set (h : RowQ w g off cap l) (k : Nat) (x : Int) (hx : (Lit.int .i64 x).wf = true) : RowQ (w.setCell ⟨g, off + k, none⟩ (.int .i64 x)) g off cap (l.set k x) := by
  obtain ⟨h1, cur, h2, h3, h4, h5, h6⟩ := h
  refine ⟨fun y hy => ?_, cur.setIfInBounds (off + k) (.int .i64 x), by simp [World.setCell, Array.getElem?_modify, h2], by rw [List.length_set]; exact h3, h4, by simpa using h5, fun j hj => ?_⟩
  · rcases List.mem_or_eq_of_mem_set hy with h | h
    · exact h1 y h
    · rw [h]; exact hx
  · rw [List.length_set] at hj
    rw [Array.getElem?_setIfInBounds, List.getElem?_set]
    by_cases e : k = j
    · subst e
      rw [if_pos rfl, if_pos (by omega), if_pos rfl, if_pos hj]; rfl
    · rw [if_neg (by omega), if_neg e]
      exact h6 j hj
theorem RowQ.take (h : RowQ w g off cap l) (k : Nat) : RowQ w g off cap (l.take k) := by
  obtain ⟨h1, cur, h2, h3, h4, h5, h6⟩ := h
  refine ⟨fun y hy => h1 y (List.mem_of_mem_take hy), cur, h2, by rw [List.length_take]; omega, h4, h5, fun j hj => ?_⟩
  rw [List.length_take] at hj
  rw [List.getElem?_take, if_pos (by omega)]
  exact h6 j (by omega)
theorem RowQ.beyond (h : RowQ w g off cap l) (k : Nat) (v : Value) (hk : off + l.length ≤ k) : RowQ (w.setCell ⟨g, k, none⟩ v) g off cap l := by
  obtain ⟨h1, cur, h2, h3, h4, h5, h6⟩ := h
  refine ⟨h1, cur.setIfInBounds k v, by simp [World.setCell, Array.getElem?_modify, h2], h3, h4, by simpa using h5, fun j hj => ?_⟩
  rw [Array.getElem?_setIfInBounds, if_neg (by omega)]
  exact h6 j hj
theorem RowQ.sets : ∀ (vs : List Value) (w : World) (k : Nat), RowQ w g off cap l → off + l.length ≤ k → RowQ (w.setCells g k vs) g off cap l ∧ w.grownBy (w.setCells g k vs) (some g)
  | [], w, k, h, hk => ⟨h, ⟨rfl, rfl, rfl, Nat.le_refl _, fun _ _ _ => rfl⟩⟩
  | v :: vs, w, k, h, hk => by
    obtain ⟨h1, h2⟩ := RowQ.sets vs (w.setCell ⟨g, k, none⟩ v) (k + 1) (h.beyond k v hk) (by omega)
    exact ⟨h1, gtrans (set_grown w g k v) h2⟩
theorem RowQ.more {row : Option Nat} (h : RowQ w g off cap l) (hg : w.grownBy w' row) (hne : some g ≠ row) : RowQ w' g off cap l := by
  have hlt := h.lt
  obtain ⟨h1, cur, h2, h3⟩ := h
  exact ⟨h1, cur, (hg.block g hlt hne).trans h2, h3⟩

theorem close_any (x i : Int) (bx : Nat) (w : World) (hc : w.cell? ⟨bx, 0, none⟩ = some (.int .i64 i)) (R : Bool) (hR : (x == i) = R) :
    Calls Tryd.prog 17 #[.int .i64 x, .pointer (some ⟨bx, 0, none⟩)] w fun e w' => e = .returned (.bool R) ∧ w' = w := by
  go_enter Tryd.func17, Tryd.ntmps17
  go_wp2_with fail
  go_ret
  exact ⟨by rw [← hR]; rfl, rfl⟩

theorem index_any (bx : Nat) (i : Int) (g off n cap : Nat) (l : List Int) (w : World) (hn : n = l.length) (hc : w.cell? ⟨bx, 0, none⟩ = some (.int .i64 i)) (hr : RowQ w g off cap l) (hi : i ∈ l) :
    Calls Tryd.prog 21 #[.slice (some ⟨g, off, none⟩) n cap, .func (.func 17) #[] #[.pointer (some ⟨bx, 0, none⟩)]] w fun e w' => (∃ r : Nat, e = .returned (.int .i64 (r : Int)) ∧ r < n ∧ l[r]?.getD 0 = i ∧ i ∉ l.take r) ∧ w' = w := by
  have CL := Lib.hid (fun x R (hR : (x == i) = R) => close_any x i bx w hc R hR)
  have hcap := hr.caps
  have hm : cap ≤ 9223372036854775807 := by have := hcap.2; unfold maxLen at this; omega
  rw [← hn] at hcap
  have HR := Lib.hid hr
  have HN := Lib.hid hn
  have HIN := Lib.hid hi
  clear hr hn hi
  go_enter Tryd.func21, Tryd.ntmps21
  go_wp2_with fail
  go_loopw [8] (fun iv wr => ∃ j : Nat, iv = .int .i64 (j : Int) ∧ j ≤ n ∧ wr = w ∧ Hid (i ∉ l.take j)) (fun i _ => n - (intOf i).toNat)
  case atStart => exact ⟨0, rfl, Nat.zero_le _, rfl, Lib.hid (by simp)⟩
  case round =>
    obtain ⟨j, rfl, hj, rfl, HX⟩ := hrel
    by_cases hjn : j < n
    · have t1 : decide ((j : Int) < (n : Int)) = true := decide_eq_true (by omega)
      have hc1 := HR.out.cell (j := j) (by rw [← HN.out]; omega)
      have ht := Lib.hid (show l.take (j + 1) = l.take j ++ [l[j]?.getD 0] by rw [List.take_add_one, List.getElem?_eq_getElem (by rw [← HN.out]; omega)]; rfl)
      have hx := Lib.hid (rfl : l[j]?.getD 0 = l[j]?.getD 0)
      generalize hy : l[j]?.getD 0 = y at hc1 ht
      by_cases hxy : y = i
      · have C := Lib.hid (CL.out y true (by rw [hxy]; simp))
        have HY := Lib.hid (hy.trans hxy)
        clear hy hx hxy
        go_wp2_with fail
        refine C.out.mono ?_; rintro e w2 ⟨rfl, rfl⟩
        go_wp2_with fail
        go_ret
        exact ⟨⟨j, rfl, hjn, HY.out, HX.out⟩, rfl⟩
      · have C := Lib.hid (CL.out y false (by rw [beq_eq_false_iff_ne]; exact hxy))
        have HXY := Lib.hid hxy
        clear hx hy hxy
        go_wp2_with fail
        refine C.out.mono ?_; rintro e w2 ⟨rfl, rfl⟩
        go_wp2_with fail
        go_roundw
        case rel => exact ⟨j + 1, by first | rfl | go_num, by omega, by first | trivial | rfl, Lib.hid (by rw [ht.out, List.mem_append]; rintro (h | h); exact HX.out h; simp at h; exact HXY.out h.symm)⟩
        case measure => simp [intOf]; omega
    · obtain rfl : j = n := by omega
      exact absurd HIN.out (by have h := HX.out; rwa [List.take_of_length_le (by rw [HN.out]; exact Nat.le_refl _)] at h)

def drop1 (l : List Int) (i : Int) : List Int := l.filter (fun x => !(x == i))
theorem drop1_none {l : List Int} {i : Int} (h : i ∉ l) : drop1 l i = l := by
  unfold drop1
  rw [List.filter_eq_self]
  intro x hx
  have : x ≠ i := fun e => h (e ▸ hx)
  simp [this]
theorem drop1_app (l m : List Int) (i : Int) : drop1 (l ++ m) i = drop1 l i ++ drop1 m i := List.filter_append _ _
theorem set_take {L : List Int} {k : Nat} (h : k < L.length) (x : Int) : (L.set k x).take (k + 1) = L.take k ++ [x] := by
  rw [List.take_add_one, List.getElem?_set, if_pos rfl, if_pos h, List.take_set_of_le (Nat.le_refl _)]
  rfl
theorem drop1_le (l : List Int) (i : Int) : (drop1 l i).length ≤ l.length := List.length_filter_le _ _

theorem del_any (bx : Nat) (i : Int) (g off n cap : Nat) (l : List Int) (w : World) (hn : n = l.length) (hc : w.cell? ⟨bx, 0, none⟩ = some (.int .i64 i)) (hr : RowQ w g off cap l) (hi : i ∈ l) (hbg : bx ≠ g) (hbx : bx < w.heap.size) :
    Calls Tryd.prog 16 #[.slice (some ⟨g, off, none⟩) n cap, .func (.func 17) #[] #[.pointer (some ⟨bx, 0, none⟩)]] w fun e w' => e = .returned (.slice (some ⟨g, off, none⟩) (drop1 l i).length cap) ∧ RowQ w' g off cap (drop1 l i) ∧ w.grownBy w' (some g) := by
  have IX := Lib.hid (index_any bx i g off n cap l w hn hc hr hi)
  have hcap := hr.caps
  have hm : cap ≤ 9223372036854775807 := by have := hcap.2; unfold maxLen at this; omega
  rw [← hn] at hcap
  have hcn := hcap.1
  have HC := Lib.hid hc
  have HR := Lib.hid hr
  have HN := Lib.hid hn
  have HBG := Lib.hid hbg
  have HBX := Lib.hid hbx
  clear hr hn hi hc hbg hbx
  go_enter Tryd.func16, Tryd.ntmps16
  go_wp2_with fail
  refine IX.out.mono ?_; rintro e w2 ⟨⟨r, rfl, hrn, hri, hrt⟩, rfl⟩
  have t0 : ((r : Int) == -1) = false := by rw [beq_eq_false_iff_ne]; omega
  have hdr := Lib.hid (drop1_none hrt)
  have HT := Lib.hid (show drop1 (l.take (r + 1)) i = l.take r by
    rw [List.take_add_one, List.getElem?_eq_getElem (by rw [← HN.out]; omega), drop1_app, drop1_none hrt]
    rw [List.getElem?_eq_getElem (by rw [← HN.out]; omega)] at hri
    have h2 : l[r]'(by rw [← HN.out]; omega) = i := hri
    simp [drop1, h2])
  clear hri hrt IX
  go_wp2_with fail
  go_loopw [5, 6] (fun iv jv wr => ∃ k j : Nat, iv = .int .i64 (k : Int) ∧ jv = .int .i64 (j : Int) ∧ k < j ∧ j ≤ n ∧ Hid (∃ L : List Int, L.length = n ∧ L.take k = drop1 (l.take j) i ∧ (∀ t : Nat, j ≤ t → L[t]? = l[t]?) ∧ RowQ wr g off cap L) ∧ Hid (w2.grownBy wr (some g))) (fun _ j _ => n - (intOf j).toNat)
  case atStart => exact ⟨r, r + 1, rfl, by first | rfl | go_num, by omega, by omega, Lib.hid ⟨l, HN.out.symm, HT.out.symm, fun _ _ => rfl, HR.out⟩, Lib.hid ⟨rfl, rfl, rfl, Nat.le_refl _, fun _ _ _ => rfl⟩⟩
  case round =>
    obtain ⟨k, j, rfl, rfl, hkj, hj, HL, HG⟩ := hrel
    obtain ⟨L, hL1, hL2, hL3, hL4⟩ := HL.out
    by_cases hjn : j < n
    · have t1 : decide ((j : Int) < (n : Int)) = true := decide_eq_true (by omega)
      have hjL : j < l.length := by rw [← HN.out]; omega
      have hc1 := hL4.cell (j := j) (by omega)
      rw [hL3 j (Nat.le_refl _)] at hc1
      have hc2 := (hL4.room (j := k) (by omega))
      have hf2 := hL4.fz (off + k)
      have hx := hL4.1 (l[j]?.getD 0) (by have h := hL3 j (Nat.le_refl _); rw [List.getElem?_eq_getElem hjL] at h ⊢; exact List.mem_of_getElem? h)
      have ht : l.take (j + 1) = l.take j ++ [l[j]?.getD 0] := by rw [List.take_add_one, List.getElem?_eq_getElem hjL]; rfl
      have hcb : wr.cell? ⟨bx, 0, none⟩ = some (.int .i64 i) := (World.cell?_of_block (HG.out.block bx HBX.out (fun e => HBG.out (Option.some.inj e)))).trans HC.out
      generalize l[j]?.getD 0 = y at hc1 hx ht
      by_cases hxy : y = i
      · have C := Lib.hid (close_any y i bx wr hcb true (by rw [hxy]; simp))
        have HREL := Lib.hid (show ∃ L : List Int, L.length = n ∧ L.take k = drop1 (l.take (j + 1)) i ∧ (∀ t : Nat, j + 1 ≤ t → L[t]? = l[t]?) ∧ RowQ wr g off cap L from ⟨L, hL1, by rw [ht, drop1_app, hL2, hxy]; simp [drop1], fun t h => hL3 t (by omega), hL4⟩)
        clear hL1 hL2 hL3 hL4 hx ht hxy hcb hc2 hf2 hjL
        go_wp2_with fail
        refine C.out.mono ?_; rintro e w3 ⟨rfl, rfl⟩
        go_wp2_with fail
        go_roundw
        case rel => exact ⟨k, j + 1, rfl, by first | rfl | go_num, by omega, by omega, HREL, HG⟩
        case measure => simp [intOf]; omega
      · have C := Lib.hid (close_any y i bx wr hcb false (by rw [beq_eq_false_iff_ne]; exact hxy))
        have HREL := Lib.hid (show ∃ M : List Int, M.length = n ∧ M.take (k + 1) = drop1 (l.take (j + 1)) i ∧ (∀ t : Nat, j + 1 ≤ t → M[t]? = l[t]?) ∧ RowQ (wr.setCell ⟨g, off + k, none⟩ (.int .i64 y)) g off cap M from ⟨L.set k y, by rw [List.length_set]; exact hL1, by rw [set_take (by omega), ht, drop1_app, hL2]; simp [drop1, hxy], fun t h => by rw [List.getElem?_set, if_neg (by omega)]; exact hL3 t (by omega), hL4.set k y hx⟩)
        have HG2 := Lib.hid (gtrans HG.out (set_grown wr g (off + k) (.int .i64 y)))
        obtain ⟨old, hold⟩ := Option.isSome_iff_exists.1 hc2
        have hkn : (k : Int) < (n : Int) := by omega
        clear hL1 hL2 hL3 hL4 hx ht hxy hcb hc2 hjL
        go_wp2_with fail
        refine C.out.mono ?_; rintro e w3 ⟨rfl, rfl⟩
        go_wp2_with fail
        go_roundw
        case rel => exact ⟨k + 1, j + 1, by first | rfl | go_num, by first | rfl | go_num, by omega, by omega, HREL, HG2⟩
        case measure => simp [intOf]; omega
    · obtain rfl : j = n := by omega
      have t1 : decide ((j : Int) < (j : Int)) = false := decide_eq_false (by omega)
      rw [show l.take j = l from List.take_of_length_le (by have := HN.out; omega)] at hL2
      have hk : (drop1 l i).length = k := by rw [← hL2, List.length_take]; omega
      have hcl := (fun ty => Go.Lib.run_clear_slice (P := Tryd.prog) wr 29 3 ty (.int .i64 0) Tryd.underlying29 zeroZ rfl rfl g (off + k) (j - k) (cap - k) (by omega) (fun t ht => by rw [Nat.add_assoc]; exact hL4.room (by omega)) (fun t ht => hL4.fz _))
      have hrow := RowQ.sets (List.replicate (j - k) (.int .i64 0)) wr (off + k) (hL4.take k) (by rw [List.length_take]; omega)
      rw [hL2] at hrow
      generalize wr.setCells g (off + k) (List.replicate (j - k) (.int .i64 0)) = w9 at hcl hrow
      have HROW := Lib.hid hrow.1
      have HG3 := Lib.hid (gtrans HG.out hrow.2)
      clear hL1 hL2 hL3 hL4 hrow
      have HK := Lib.hid hk
      clear hk
      go_wp2_with fail
      go_ret
      exact ⟨by rw [HK.out]; rfl, HROW.out, HG3.out⟩
end Go.Proofs.YtjknojfdlpgicaaDoor.Wheel
