/- The contract of the document's putting together of fragments. No statement is proved here. -/
import Derived.Test.YtaflpdagehocfaaDoorPutMath
import Derived.Test.YtaflpdagehocfaaDoorBytes
import Derived.Test.YtaflpdagehocfaaDoorAgain
import Derived.Deep.RegionHeld3
import Derived.Laws.OwnMore
import Derived.Laws.IdiomStrings
import Derived.Laws.BytesArg
namespace Go.Proofs.YtaflpdagehocfaaDoor.Part
open Go.ChangeShapes Go.WideShapes Go.ChangeAt Go.RowKit Go.Proofs.YtaflpdagehocfaaDoor.Kit Go.Proofs.YtaflpdagehocfaaDoor.App Go.Proofs.YtaflpdagehocfaaDoor.Cells
set_option linter.unusedVariables false
set_option maxRecDepth 20000

/-- The cells, as a list. -/
def cells200 (h : Nat → Nat) : List Int := (List.range 200).map fun i => ((h i : Nat) : Int)
theorem cells200_len (h : Nat → Nat) : (cells200 h).length = 200 := by simp [cells200]
theorem cells200_get (h : Nat → Nat) (i : Nat) (hi : i < 200) : (cells200 h)[i]? = some ((h i : Nat) : Int) := by
  unfold cells200
  rw [List.getElem?_map, List.getElem?_range hi]; rfl
theorem cells200_set (h h' : Nat → Nat) (j : Nat) (x : Nat) (hj : j < 200) (hh : ∀ i, h' i = if i = j then x else h i) : (cells200 h).set j (x : Int) = cells200 h' := by
  apply List.ext_getElem?
  intro i
  rw [List.getElem?_set, cells200_len]
  by_cases h1 : j = i
  · subst h1
    rw [if_pos rfl, if_pos hj, cells200_get _ _ hj, hh, if_pos rfl]
  · rw [if_neg h1]
    by_cases h2 : i < 200
    · rw [cells200_get _ _ h2, cells200_get _ _ h2, hh, if_neg (fun e => h1 e.symm)]
    · rw [List.getElem?_eq_none (by rw [cells200_len]; omega), List.getElem?_eq_none (by rw [cells200_len]; omega)]
theorem below_set {W w : World} {base : Nat} {g cap : Nat} {n : Nat} {l : List Int} (hb : Below base W w) (hown : OwnI w base (.slice (some ⟨g, 0, none⟩) n cap) l) (j : Nat) (u : Value) : Below base W (w.setCell ⟨g, j, none⟩ u) :=
  hb.setCell (p := ⟨g, j, none⟩) (hown.lt g rfl).1 u
theorem own_set {w : World} {base g cap n : Nat} {l : List Int} (hown : OwnI w base (.slice (some ⟨g, 0, none⟩) n cap) l) (j : Nat) (hj : j < l.length) (x : Int) (hx : (Lit.int .i64 x).wf = true) :
    OwnI (w.setCell ⟨g, j, none⟩ (.int .i64 x)) base (.slice (some ⟨g, 0, none⟩) n cap) (l.set j x) := by
  obtain ⟨h1, h2⟩ := hown
  have hn : n = l.length := by
    rcases h1.2 with ⟨e, _⟩ | ⟨g', cap', cur, e, _⟩
    · cases e
    · injection e
  subst hn
  refine ⟨?_, fun y hy => ?_⟩
  · have := World.ownsRow.stored h1 j (.int .i64 x)
    rw [List.length_set, List.map_set]
    exact this.1
  · rcases List.mem_or_eq_of_mem_set hy with h | rfl
    · exact h2 y h
    · exact hx
/-- The row of the cells. -/
def Has (w : World) (base g : Nat) (h : Nat → Nat) : Prop := OwnI w base (.slice (some ⟨g, 0, none⟩) 200 200) (cells200 h) ∧ ∀ i, h i ≤ 256
theorem wf_256 {x : Nat} (h : x ≤ 256) : (Lit.int .i64 (x : Int)).wf = true := by simp [Lit.wf, IntKind.min, IntKind.max, IntKind.signed, IntKind.bits]; omega
theorem Has.cell {w : World} {base g : Nat} {h : Nat → Nat} (H : Has w base g h) (i : Nat) (hi : i < 200) : w.cell? ⟨g, i, none⟩ = some (.int .i64 ((h i : Nat) : Int)) := by
  have := H.1.1.cellAt i (by omega)
  rw [this, List.getElem?_map, cells200_get h i hi]; rfl
theorem Has.frozen {w : World} {base g : Nat} {h : Nat → Nat} (H : Has w base g h) (i : Nat) : w.frozen? ⟨g, i, none⟩ = false := H.1.1.frozenAt i
theorem Has.set {w : World} {base g : Nat} {h h' : Nat → Nat} (H : Has w base g h) (j x : Nat) (hj : j < 200) (hx : x ≤ 256) (hh : ∀ i, h' i = if i = j then x else h i) : Has (w.setCell ⟨g, j, none⟩ (.int .i64 (x : Int))) base g h' := by
  have := own_set H.1 j (by rw [cells200_len]; omega) (x : Int) (wf_256 hx)
  rw [cells200_set h h' j x hj hh] at this
  refine ⟨this, fun i => ?_⟩
  rw [hh]; split
  · exact hx
  · exact H.2 i
theorem made (w : World) (base : Nat) (hb : base ≤ w.heap.size) : ∃ w', (Instr.makeSlice 47 (.int .i64 200) (.int .i64 200)).run Tryd.prog w = .ok (.slice (some ⟨w.heap.size, 0, none⟩) 200 200) w' ∧ Has w' base w.heap.size (fun _ => 0) ∧ w.grownBy w' none := by
  have hi0 := info_int
  obtain ⟨i, hi, hz⟩ := Option.map_eq_some_iff.1 hi0
  simp only [Prod.mk.injEq] at hz
  obtain ⟨w', h1, h2, h3⟩ := run_makeSlice_full (P := Tryd.prog) (w := w) base 47 3 i (.int .i64 0) 1 Tryd.underlying47 hi hz.1 hz.2.1 .i64 .i64 200 (by omega) (by rw [hz.2.2]; omega) (by unfold maxLen; omega) hb
  refine ⟨w', h1, ⟨⟨?_, fun x hx => ?_⟩, fun i => Nat.zero_le _⟩, h3⟩
  · have e : (cells200 fun _ => 0).map (Value.int .i64) = List.replicate 200 (.int .i64 0) := by kernel_rfl
    rw [e, cells200_len]
    have e2 : (madeCells (Value.cells (.int .i64 0)) (200 * 1)).toList = List.replicate 200 (.int .i64 0) := toList_madeCells_one _ _
    rw [e2] at h2
    exact h2
  · unfold cells200 at hx
    obtain ⟨_, _, rfl⟩ := List.mem_map.1 hx
    exact wf_256 (x := 0) (by omega)
theorem Has.below {w w' : World} {base g : Nat} {h : Nat → Nat} (H : Has w base g h) (hb : Below w.heap.size w w') : Has w' base g h := ⟨H.1.below hb, H.2⟩
theorem Has.alloc {w : World} {base g : Nat} {h : Nat → Nat} (H : Has w base g h) (o : Obj) : Has (w.alloc o) base g h := ⟨H.1.alloc o, H.2⟩
theorem Has.drew {w : World} {base g : Nat} {h : Nat → Nat} (H : Has w base g h) : Has w.drew base g h := H

set_option maxHeartbeats 4000000 in
theorem rjoin_any (p : Option Addr) (cap n : Nat) (l : List Prt) (w : World) (hn : n = l.length) (hc : CI lay w p cap l) (hF : ∀ x ∈ l, Fits x) (rs : ByteArray) (rc : Int) (hR : match joinM l with | .ok t => rs = ⟨t.toArray⟩ ∧ rc = 0 | .error m => rs = .empty ∧ rc = m) :
    Calls Tryd.prog 11 #[.slice p n cap] w fun e w' => e = .returned (.tuple #[.string rs, .int .i64 rc]) ∧ Below w.heap.size w w' := by
  subst hn
  have hlen := hc.len_le
  by_cases h4 : 40 < l.length
  · have t0 : decide ((40 : Int) < (l.length : Int)) = true := decide_eq_true (by omega)
    have e4 : joinM l = .error 4 := by unfold joinM; rw [if_pos h4]
    rw [e4] at hR
    obtain ⟨rfl, rfl⟩ := hR
    go_enter Tryd.func11, Tryd.ntmps11
    go_wp2_with fail
    go_ret2
    exact ⟨rfl, brefl w⟩
  · have t0 : decide ((40 : Int) < (l.length : Int)) = false := decide_eq_false (by omega)
    have HR := Lib.hid hR
    clear hR
    obtain ⟨w1, hmk, has1, hg1⟩ := made w w.heap.size (Nat.le_refl _)
    have hB1 : Below w.heap.size w w1 := (brefl w).grown hg1 (Nat.le_refl _) (fun k e => by cases e)
    clear hg1
    go_enter Tryd.func11, Tryd.ntmps11
    go_wp2_with fail
    go_loopw [4, 6] (fun ev iv wr => ∃ (k : Nat) (fin : Int) (h : Nat → Nat), k ≤ l.length ∧ iv = .int .i64 k ∧ ev = .int .i64 fin ∧ -1 ≤ fin ∧ fin ≤ 200 ∧ Has wr w.heap.size w.heap.size h ∧ Below w.heap.size w wr ∧ Hid (foldJ fin h (l.drop k) = foldJ (-1) (fun _ => 0) l)) (fun _ i _ => l.length - (intOf i).toNat)
    case atStart => exact ⟨0, -1, fun _ => 0, Nat.zero_le _, rfl, rfl, by omega, by omega, has1, hB1, rfl⟩
    case round =>
      obtain ⟨k, fin, h, hk, rfl, rfl, hf1, hf2, hH, hB, HE⟩ := hrel
      by_cases hlt : k < l.length
      · obtain ⟨q1, off1, rfl, hq1, hc1⟩ := hc.2.2 (by omega)
        obtain ⟨⟨a, b, s⟩, hx⟩ : ∃ x, l[k]? = some x := ⟨_, List.getElem?_eq_getElem hlt⟩
        have hFx := hF _ (List.mem_of_getElem? hx)
        have hx0 : wr.cell? ⟨q1, off1 + k * 3, none⟩ = some (.int .i64 a) := (hB.cell (p := ⟨q1, off1 + k * 3, none⟩) hq1).trans (hc1 k _ hx 0 _ rfl)
        have hx1 : wr.cell? ⟨q1, off1 + k * 3 + 1, none⟩ = some (.bool b) := (hB.cell (p := ⟨q1, off1 + k * 3 + 1, none⟩) hq1).trans (hc1 k _ hx 1 _ rfl)
        have hx2 : wr.cell? ⟨q1, off1 + k * 3 + 2, none⟩ = some (.string s) := (hB.cell (p := ⟨q1, off1 + k * 3 + 2, none⟩) hq1).trans (hc1 k _ hx 2 _ rfl)
        have hd : l.drop k = ⟨a, b, s⟩ :: l.drop (k + 1) := by rw [List.drop_eq_getElem_cons hlt]; rw [List.getElem?_eq_getElem hlt] at hx; rw [Option.some.inj hx]
        have HE2 := Lib.hid (HE.out.symm.trans (by rw [hd]))
        have RR := Lib.hid (fun W => rright ⟨a, b, s⟩ W hFx _ rfl)
        unfold val at RR
        simp only at RR
        clear hc1 hx hd HE hmk
        by_cases hr : right ⟨a, b, s⟩ = true
        · rw [hr] at RR
          go_wp2_with fail
          refine (RR.out _).mono ?_; rintro e w2 ⟨rfl, hb2⟩
          have bx := (Box.new wr ⟨a, b, s⟩ 23).below hb2 (by simp)
          have hH2 : Has w2 w.heap.size w.heap.size h := (hH.alloc (.cells #[.int .i64 a, .bool b, .string s] 23)).below hb2
          have hB2 : Below w.heap.size w w2 := (balloc hB _).trans (hb2.mono (Nat.le_trans hB.size (by simp)))
          have hgw : w.heap.size < wr.heap.size := by have := hH.1.lt w.heap.size rfl; omega
          obtain ⟨g, hg⟩ : ∃ g, wr.heap.size = g := ⟨_, rfl⟩
          rw [hg] at bx hgw ⊢
          have BX := Lib.hid bx
          obtain ⟨bx0, c0, c1, c2⟩ := bx
          simp only at c0 c1 c2
          have hr1 := (right_iff _).1 hr
          have hr2 : 0 ≤ a ∧ a ≤ 200 ∧ (s.size : Int) ≤ 200 - a := hr1
          obtain ⟨r1, r2, r3⟩ := hr2
          clear hb2 hH hB hx0 hx1 hx2 hg hr1 RR has1 hB1
          obtain ⟨an, rfl⟩ := Int.eq_ofNat_of_zero_le r1
          cases b
          · by_cases hf : 0 ≤ fin
            · have u1 : decide (0 ≤ fin) = true := decide_eq_true hf
              by_cases hfe : fin = an + s.size
              · go_wp2_with fail
                have hat : Prt.at ⟨(an : Int), false, s⟩ = an := by unfold Prt.at; simp
                have hbl : Prt.bs ⟨(an : Int), false, s⟩ = s.data.toList := rfl
                have hsl : (s.data.toList).length = s.size := rfl
                go_loopw [8] (fun jv wi => ∃ j : Nat, j ≤ s.size ∧ jv = .int .i64 j ∧ Has wi w.heap.size w.heap.size (putTo h ⟨(an : Int), false, s⟩ j) ∧ Below w.heap.size w wi ∧ Box wi g ⟨(an : Int), false, s⟩ ∧ Hid (Still h ⟨(an : Int), false, s⟩ j)) (fun i _ => s.size - (intOf i).toNat)
                case atStart => exact ⟨0, Nat.zero_le _, rfl, by rw [putTo_zero]; exact hH2, hB2, BX.out, fun i h1 h2 => absurd h2 (by omega)⟩
                case round =>
                  obtain ⟨j, hj, rfl, hHi, hBi, bxi, hst⟩ := hrel
                  have bxi' := bxi
                  obtain ⟨bi0, d0, d1, d2⟩ := bxi
                  simp only at d0 d1 d2
                  by_cases hjl : j < s.size
                  · have e1 := hHi.cell (an + j) (by omega)
                    have e2 := hHi.frozen (an + j)
                    rw [show putTo h ⟨(an : Int), false, s⟩ j (an + j) = h (an + j) by have := putTo_at h ⟨(an : Int), false, s⟩ j; rw [hat] at this; exact this] at e1
                    have hz1 := cell_at an false s j hjl
                    obtain ⟨z, hz⟩ : ∃ z, (s[j]'hjl).toNat = z := ⟨_, rfl⟩
                    have hz2 : z < 256 := by rw [← hz]; exact UInt8.toNat_lt _
                    rw [hz] at hz1
                    obtain ⟨v, hv⟩ : ∃ v, h (an + j) = v := ⟨_, rfl⟩
                    rw [hv] at e1
                    have hvb : v ≤ 256 := by rw [← hv]; have := hHi.2 (an + j); rw [show putTo h ⟨(an : Int), false, s⟩ j (an + j) = h (an + j) by have := putTo_at h ⟨(an : Int), false, s⟩ j; rw [hat] at this; exact this] at this; exact this
                    have HV := Lib.hid hv
                    have HZ := Lib.hid hz1
                    clear hv hz1
                    by_cases hc1 : v = 0
                    · subst hc1
                      go_wp2_with fail
                      go_roundw
                      case rel =>
                        refine ⟨j + 1, by omega, by go_num, ?_, below_set hBi hHi.1 (an + j) _, bxi'.more (World.ownsRow.stored hHi.1.1 (an + j) _).2 (by omega), ?_⟩
                        · exact hHi.set (an + j) (z + 1) (by omega) (by omega) (fun i => by
                            have := putTo_succ h ⟨(an : Int), false, s⟩ j i
                            rw [hat, HZ.out] at this; exact this)
                        · intro i h1 h2
                          rw [hat] at h1 h2
                          by_cases h3 : i = an + j
                          · rw [h3]; exact .inl HV.out
                          · exact hst.out i (by rw [hat]; exact h1) (by rw [hat]; omega)
                      case measure => simp [intOf]; omega
                    · have hcn : ((v : Int) != 0) = true := by rw [bne_iff_ne]; omega
                      by_cases hc2 : v = z + 1
                      · subst hc2
                        have hc3 : (((z + 1 : Nat) : Int) != (z : Int) + 1) = false := by simp
                        go_wp2_with fail
                        go_roundw
                        case rel =>
                          refine ⟨j + 1, by omega, by go_num, ?_, below_set hBi hHi.1 (an + j) _, bxi'.more (World.ownsRow.stored hHi.1.1 (an + j) _).2 (by omega), ?_⟩
                          · exact hHi.set (an + j) (z + 1) (by omega) (by omega) (fun i => by
                              have := putTo_succ h ⟨(an : Int), false, s⟩ j i
                              rw [hat, HZ.out] at this; exact this)
                          · intro i h1 h2
                            rw [hat] at h1 h2
                            by_cases h3 : i = an + j
                            · rw [h3]; exact .inr (by rw [HV.out, HZ.out])
                            · exact hst.out i (by rw [hat]; exact h1) (by rw [hat]; omega)
                        case measure => simp [intOf]; omega
                      · have hcm : ((v : Int) != (z : Int) + 1) = true := by rw [bne_iff_ne]; omega
                        have hr6 : foldJ (-1) (fun _ => 0) l = .error 6 := HE2.out.trans (foldJ_clash hr (by rintro ⟨_, _, h3⟩; exact h3 hfe) ⟨an + j, by omega, by unfold Prt.covers; rw [hat, hbl, hsl]; omega, by rw [HV.out]; omega, by rw [HV.out, HZ.out]; exact hc2⟩)
                        have hj6 := HR.out
                        rw [join_err h4 hr6] at hj6
                        obtain ⟨rfl, rfl⟩ := hj6
                        go_wp2_with fail
                        go_ret2
                        exact ⟨rfl, hBi⟩
                  · obtain rfl : j = s.size := by omega
                    have hp : putTo h ⟨(an : Int), false, s⟩ s.size = put h ⟨(an : Int), false, s⟩ := putTo_all h ⟨(an : Int), false, s⟩
                    rw [hp] at hHi
                    have hnc : ¬ clash h ⟨(an : Int), false, s⟩ := still_all hst.out
                    go_wp2_with fail
                    go_roundw
                    case rel =>
                      refine ⟨k + 1, an + s.size, put h ⟨(an : Int), false, s⟩, by omega, by go_num, rfl, by omega, by omega, hHi, hBi, ?_⟩
                      have h7 := HE2.out.trans (foldJ_on hr (by rintro ⟨_, _, h3⟩; exact h3 hfe) hnc)
                      rw [if_neg (by simp)] at h7
                      exact h7.symm
                    case measure => simp [intOf]; omega
              · have u2 : (fin != (an : Int) + (s.size : Int)) = true := by rw [bne_iff_ne]; exact hfe
                have hr6 : foldJ (-1) (fun _ => 0) l = .error 6 := HE2.out.trans (foldJ_end hr rfl hf (fun h3 => hfe h3))
                have hj6 := HR.out
                rw [join_err h4 hr6] at hj6
                obtain ⟨rfl, rfl⟩ := hj6
                go_wp2_with fail
                go_ret2
                exact ⟨rfl, hB2⟩
            · have u1 : decide (0 ≤ fin) = false := decide_eq_false hf
              go_wp2_with fail
              have hat : Prt.at ⟨(an : Int), false, s⟩ = an := by unfold Prt.at; simp
              have hbl : Prt.bs ⟨(an : Int), false, s⟩ = s.data.toList := rfl
              have hsl : (s.data.toList).length = s.size := rfl
              go_loopw [8] (fun jv wi => ∃ j : Nat, j ≤ s.size ∧ jv = .int .i64 j ∧ Has wi w.heap.size w.heap.size (putTo h ⟨(an : Int), false, s⟩ j) ∧ Below w.heap.size w wi ∧ Box wi g ⟨(an : Int), false, s⟩ ∧ Hid (Still h ⟨(an : Int), false, s⟩ j)) (fun i _ => s.size - (intOf i).toNat)
              case atStart => exact ⟨0, Nat.zero_le _, rfl, by rw [putTo_zero]; exact hH2, hB2, BX.out, fun i h1 h2 => absurd h2 (by omega)⟩
              case round =>
                obtain ⟨j, hj, rfl, hHi, hBi, bxi, hst⟩ := hrel
                have bxi' := bxi
                obtain ⟨bi0, d0, d1, d2⟩ := bxi
                simp only at d0 d1 d2
                by_cases hjl : j < s.size
                · have e1 := hHi.cell (an + j) (by omega)
                  have e2 := hHi.frozen (an + j)
                  rw [show putTo h ⟨(an : Int), false, s⟩ j (an + j) = h (an + j) by have := putTo_at h ⟨(an : Int), false, s⟩ j; rw [hat] at this; exact this] at e1
                  have hz1 := cell_at an false s j hjl
                  obtain ⟨z, hz⟩ : ∃ z, (s[j]'hjl).toNat = z := ⟨_, rfl⟩
                  have hz2 : z < 256 := by rw [← hz]; exact UInt8.toNat_lt _
                  rw [hz] at hz1
                  obtain ⟨v, hv⟩ : ∃ v, h (an + j) = v := ⟨_, rfl⟩
                  rw [hv] at e1
                  have hvb : v ≤ 256 := by rw [← hv]; have := hHi.2 (an + j); rw [show putTo h ⟨(an : Int), false, s⟩ j (an + j) = h (an + j) by have := putTo_at h ⟨(an : Int), false, s⟩ j; rw [hat] at this; exact this] at this; exact this
                  have HV := Lib.hid hv
                  have HZ := Lib.hid hz1
                  clear hv hz1
                  by_cases hc1 : v = 0
                  · subst hc1
                    go_wp2_with fail
                    go_roundw
                    case rel =>
                      refine ⟨j + 1, by omega, by go_num, ?_, below_set hBi hHi.1 (an + j) _, bxi'.more (World.ownsRow.stored hHi.1.1 (an + j) _).2 (by omega), ?_⟩
                      · exact hHi.set (an + j) (z + 1) (by omega) (by omega) (fun i => by
                          have := putTo_succ h ⟨(an : Int), false, s⟩ j i
                          rw [hat, HZ.out] at this; exact this)
                      · intro i h1 h2
                        rw [hat] at h1 h2
                        by_cases h3 : i = an + j
                        · rw [h3]; exact .inl HV.out
                        · exact hst.out i (by rw [hat]; exact h1) (by rw [hat]; omega)
                    case measure => simp [intOf]; omega
                  · have hcn : ((v : Int) != 0) = true := by rw [bne_iff_ne]; omega
                    by_cases hc2 : v = z + 1
                    · subst hc2
                      have hc3 : (((z + 1 : Nat) : Int) != (z : Int) + 1) = false := by simp
                      go_wp2_with fail
                      go_roundw
                      case rel =>
                        refine ⟨j + 1, by omega, by go_num, ?_, below_set hBi hHi.1 (an + j) _, bxi'.more (World.ownsRow.stored hHi.1.1 (an + j) _).2 (by omega), ?_⟩
                        · exact hHi.set (an + j) (z + 1) (by omega) (by omega) (fun i => by
                            have := putTo_succ h ⟨(an : Int), false, s⟩ j i
                            rw [hat, HZ.out] at this; exact this)
                        · intro i h1 h2
                          rw [hat] at h1 h2
                          by_cases h3 : i = an + j
                          · rw [h3]; exact .inr (by rw [HV.out, HZ.out])
                          · exact hst.out i (by rw [hat]; exact h1) (by rw [hat]; omega)
                      case measure => simp [intOf]; omega
                    · have hcm : ((v : Int) != (z : Int) + 1) = true := by rw [bne_iff_ne]; omega
                      have hr6 : foldJ (-1) (fun _ => 0) l = .error 6 := HE2.out.trans (foldJ_clash hr (by rintro ⟨_, h3, _⟩; omega) ⟨an + j, by omega, by unfold Prt.covers; rw [hat, hbl, hsl]; omega, by rw [HV.out]; omega, by rw [HV.out, HZ.out]; exact hc2⟩)
                      have hj6 := HR.out
                      rw [join_err h4 hr6] at hj6
                      obtain ⟨rfl, rfl⟩ := hj6
                      go_wp2_with fail
                      go_ret2
                      exact ⟨rfl, hBi⟩
                · obtain rfl : j = s.size := by omega
                  have hp : putTo h ⟨(an : Int), false, s⟩ s.size = put h ⟨(an : Int), false, s⟩ := putTo_all h ⟨(an : Int), false, s⟩
                  rw [hp] at hHi
                  have hnc : ¬ clash h ⟨(an : Int), false, s⟩ := still_all hst.out
                  go_wp2_with fail
                  go_roundw
                  case rel =>
                    refine ⟨k + 1, an + s.size, put h ⟨(an : Int), false, s⟩, by omega, by go_num, rfl, by omega, by omega, hHi, hBi, ?_⟩
                    have h7 := HE2.out.trans (foldJ_on hr (by rintro ⟨_, h3, _⟩; omega) hnc)
                    rw [if_neg (by simp)] at h7
                    exact h7.symm
                  case measure => simp [intOf]; omega
          · go_wp2_with fail
            have hat : Prt.at ⟨(an : Int), true, s⟩ = an := by unfold Prt.at; simp
            have hbl : Prt.bs ⟨(an : Int), true, s⟩ = s.data.toList := rfl
            have hsl : (s.data.toList).length = s.size := rfl
            go_loopw [8] (fun jv wi => ∃ j : Nat, j ≤ s.size ∧ jv = .int .i64 j ∧ Has wi w.heap.size w.heap.size (putTo h ⟨(an : Int), true, s⟩ j) ∧ Below w.heap.size w wi ∧ Box wi g ⟨(an : Int), true, s⟩ ∧ Hid (Still h ⟨(an : Int), true, s⟩ j)) (fun i _ => s.size - (intOf i).toNat)
            case atStart => exact ⟨0, Nat.zero_le _, rfl, by rw [putTo_zero]; exact hH2, hB2, BX.out, fun i h1 h2 => absurd h2 (by omega)⟩
            case round =>
              obtain ⟨j, hj, rfl, hHi, hBi, bxi, hst⟩ := hrel
              have bxi' := bxi
              obtain ⟨bi0, d0, d1, d2⟩ := bxi
              simp only at d0 d1 d2
              by_cases hjl : j < s.size
              · have e1 := hHi.cell (an + j) (by omega)
                have e2 := hHi.frozen (an + j)
                rw [show putTo h ⟨(an : Int), true, s⟩ j (an + j) = h (an + j) by have := putTo_at h ⟨(an : Int), true, s⟩ j; rw [hat] at this; exact this] at e1
                have hz1 := cell_at an true s j hjl
                obtain ⟨z, hz⟩ : ∃ z, (s[j]'hjl).toNat = z := ⟨_, rfl⟩
                have hz2 : z < 256 := by rw [← hz]; exact UInt8.toNat_lt _
                rw [hz] at hz1
                obtain ⟨v, hv⟩ : ∃ v, h (an + j) = v := ⟨_, rfl⟩
                rw [hv] at e1
                have hvb : v ≤ 256 := by rw [← hv]; have := hHi.2 (an + j); rw [show putTo h ⟨(an : Int), true, s⟩ j (an + j) = h (an + j) by have := putTo_at h ⟨(an : Int), true, s⟩ j; rw [hat] at this; exact this] at this; exact this
                have HV := Lib.hid hv
                have HZ := Lib.hid hz1
                clear hv hz1
                by_cases hc1 : v = 0
                · subst hc1
                  go_wp2_with fail
                  go_roundw
                  case rel =>
                    refine ⟨j + 1, by omega, by go_num, ?_, below_set hBi hHi.1 (an + j) _, bxi'.more (World.ownsRow.stored hHi.1.1 (an + j) _).2 (by omega), ?_⟩
                    · exact hHi.set (an + j) (z + 1) (by omega) (by omega) (fun i => by
                        have := putTo_succ h ⟨(an : Int), true, s⟩ j i
                        rw [hat, HZ.out] at this; exact this)
                    · intro i h1 h2
                      rw [hat] at h1 h2
                      by_cases h3 : i = an + j
                      · rw [h3]; exact .inl HV.out
                      · exact hst.out i (by rw [hat]; exact h1) (by rw [hat]; omega)
                  case measure => simp [intOf]; omega
                · have hcn : ((v : Int) != 0) = true := by rw [bne_iff_ne]; omega
                  by_cases hc2 : v = z + 1
                  · subst hc2
                    have hc3 : (((z + 1 : Nat) : Int) != (z : Int) + 1) = false := by simp
                    go_wp2_with fail
                    go_roundw
                    case rel =>
                      refine ⟨j + 1, by omega, by go_num, ?_, below_set hBi hHi.1 (an + j) _, bxi'.more (World.ownsRow.stored hHi.1.1 (an + j) _).2 (by omega), ?_⟩
                      · exact hHi.set (an + j) (z + 1) (by omega) (by omega) (fun i => by
                          have := putTo_succ h ⟨(an : Int), true, s⟩ j i
                          rw [hat, HZ.out] at this; exact this)
                      · intro i h1 h2
                        rw [hat] at h1 h2
                        by_cases h3 : i = an + j
                        · rw [h3]; exact .inr (by rw [HV.out, HZ.out])
                        · exact hst.out i (by rw [hat]; exact h1) (by rw [hat]; omega)
                    case measure => simp [intOf]; omega
                  · have hcm : ((v : Int) != (z : Int) + 1) = true := by rw [bne_iff_ne]; omega
                    have hr6 : foldJ (-1) (fun _ => 0) l = .error 6 := HE2.out.trans (foldJ_clash hr (by rintro ⟨h3, _, _⟩; cases h3) ⟨an + j, by omega, by unfold Prt.covers; rw [hat, hbl, hsl]; omega, by rw [HV.out]; omega, by rw [HV.out, HZ.out]; exact hc2⟩)
                    have hj6 := HR.out
                    rw [join_err h4 hr6] at hj6
                    obtain ⟨rfl, rfl⟩ := hj6
                    go_wp2_with fail
                    go_ret2
                    exact ⟨rfl, hBi⟩
              · obtain rfl : j = s.size := by omega
                have hp : putTo h ⟨(an : Int), true, s⟩ s.size = put h ⟨(an : Int), true, s⟩ := putTo_all h ⟨(an : Int), true, s⟩
                rw [hp] at hHi
                have hnc : ¬ clash h ⟨(an : Int), true, s⟩ := still_all hst.out
                go_wp2_with fail
                go_roundw
                case rel =>
                  refine ⟨k + 1, fin, put h ⟨(an : Int), true, s⟩, by omega, by go_num, rfl, by omega, by omega, hHi, hBi, ?_⟩
                  have h7 := HE2.out.trans (foldJ_on hr (by rintro ⟨h3, _, _⟩; cases h3) hnc)
                  rw [if_pos rfl] at h7
                  exact h7.symm
                case measure => simp [intOf]; omega
        · have hrf : right ⟨a, b, s⟩ = false := by simpa using hr
          rw [hrf] at RR
          have hr1 : foldJ (-1) (fun _ => 0) l = .error 1 := HE2.out.trans (foldJ_lo hrf)
          have hj1 := HR.out
          rw [join_err h4 hr1] at hj1
          obtain ⟨rfl, rfl⟩ := hj1
          go_wp2_with fail
          refine (RR.out _).mono ?_; rintro e w2 ⟨rfl, hb2⟩
          have hB2 : Below w.heap.size w w2 := (balloc hB _).trans (hb2.mono (Nat.le_trans hB.size (by simp)))
          go_wp2_with fail
          go_ret2
          exact ⟨rfl, hB2⟩
      · obtain rfl : k = l.length := by omega
        have HE3 := Lib.hid (by have := HE.out; rw [List.drop_length] at this; exact this.symm : foldJ (-1) (fun _ => 0) l = .ok (fin, h))
        clear HE has1 hB1 hmk hc hF
        by_cases hfn : fin < 0
        · have u1 : decide (fin < 0) = true := decide_eq_true hfn
          have hj5 := HR.out
          rw [join_none h4 HE3.out hfn] at hj5
          obtain ⟨rfl, rfl⟩ := hj5
          go_wp2_with fail
          go_ret2
          exact ⟨rfl, hB⟩
        · have u1 : decide (fin < 0) = false := decide_eq_false hfn
          obtain ⟨fn, rfl⟩ := Int.eq_ofNat_of_zero_le (show 0 ≤ fin by omega)
          go_wp2_with fail
          go_loopw [10, 11] (fun ov iv wi => ∃ (k : Nat) (out : List UInt8), k ≤ fn ∧ iv = .int .i64 k ∧ OC layB 5 wi w.heap.size ov out ∧ out.length = k ∧ Has wi w.heap.size w.heap.size h ∧ Below w.heap.size w wi ∧ (∀ o, ov.ownBlock = some o → o ≠ w.heap.size) ∧ Hid ((∀ i, i < k → h i ≠ 0) ∧ out = (List.range k).map fun i => (h i - 1).toUInt8)) (fun _ i _ => fn - (intOf i).toNat)
          case atStart => exact ⟨0, [], Nat.zero_le _, rfl, OC.nil _ _ _ _, rfl, hH, hB, fun o ho => by simp [Value.ownBlock] at ho, fun i hi => absurd hi (Nat.not_lt_zero _), rfl⟩
          case round =>
            obtain ⟨k, out, hk, rfl, hown, hol, hHi, hBi, hne, HH⟩ := hrel
            by_cases hkl : k < fn
            · have e1 := hHi.cell k (by omega)
              have hvb := hHi.2 k
              obtain ⟨v, hv⟩ : ∃ v, h k = v := ⟨_, rfl⟩
              rw [hv] at e1 hvb
              have HV := Lib.hid hv
              clear hv
              have s1 : decide ((k : Int) < (fn : Int)) = true := decide_eq_true (by omega)
              by_cases hv0 : v = 0
              · subst hv0
                have hj5 := HR.out
                rw [join_hole h4 HE3.out k hkl (by omega) HV.out] at hj5
                obtain ⟨rfl, rfl⟩ := hj5
                go_wp2_with fail
                go_ret2
                exact ⟨rfl, hBi⟩
              · have s2 : ((v : Int) == 0) = false := by rw [beq_eq_false_iff_ne]; omega
                obtain ⟨y, hy⟩ : ∃ y : UInt8, y = (v - 1).toUInt8 := ⟨_, rfl⟩
                have hyv : ((v : Int) - 1) = (y.toNat : Int) := by
                  rw [hy]
                  have : ((v - 1).toUInt8).toNat = v - 1 := by
                    show (UInt8.ofNat (v - 1)).toNat = v - 1
                    rw [UInt8.toNat_ofNat']; omega
                  rw [this]; omega
                have hone : CI layB (wr.alloc (.cells #[.int .u8 ((v : Int) - 1)] 5)) (some ⟨wr.heap.size, 0, none⟩) 1 [y] := by
                  have h1 := CI.one layB wr y 5
                  have h2 : (layB.enc y).toArray = #[.int .u8 ((v : Int) - 1)] := by rw [hyv]; rfl
                  rw [h2] at h1; exact h1
                have HY := Lib.hid hy
                have hBs := hBi.size
                have hol2 : out.length ≤ 200 := by omega
                have hgw : w.heap.size < wr.heap.size := by have := hHi.1.lt w.heap.size rfl; omega
                clear hy hyv hol
                go_wp2_with (at_builtin
                             refine wp_appC tyB rfl (.tmp 102) (.tmp 109) rfl w.heap.size _ out (some ⟨wr.heap.size, 0, none⟩) 1 1 [y] rfl (hown.alloc _) rfl rfl hone (by rw [List.length_singleton]; omega) (Nat.le_trans hBs (by simp)) ?_
                             intro v1 wa hown1 hg1 hat1
                             have hb1 : Below w.heap.size w wa := below_oneC hBi hBs _ hown hg1
                             have hh1 : Has wa w.heap.size w.heap.size h := ⟨(hHi.alloc _).1.more hg1 (.inr (fun e => hne _ e.symm rfl)), hHi.2⟩
                             have hn1 : ∀ o, v1.ownBlock = some o → o ≠ w.heap.size := fun o ho => by
                               rcases hat1 with e | e
                               · exact hne o (e.symm.trans ho)
                               · rw [e] at ho
                                 have h3 : (wr.alloc (.cells #[.int .u8 ((v : Int) - 1)] 5)).heap.size = o := Option.some.inj ho
                                 have h4 : (wr.alloc (.cells #[.int .u8 ((v : Int) - 1)] 5)).heap.size = wr.heap.size + 1 := by simp
                                 omega
                             clear hat1 hg1)
                go_roundw
                case rel =>
                  refine ⟨k + 1, out ++ [y], by omega, by go_num, hown1, by rw [List.length_append, HH.out.2]; simp, hh1, hb1, hn1, fun i hi => ?_, ?_⟩
                  · by_cases h3 : i = k
                    · rw [h3, HV.out]; exact hv0
                    · exact HH.out.1 i (by omega)
                  · rw [List.range_succ, List.map_append, ← HH.out.2, List.map_cons, List.map_nil, HV.out, HY.out]
                case measure => simp [intOf]; omega
            · obtain rfl : k = fn := by omega
              obtain ⟨p8, c8, rfl, hC8⟩ := hown.form
              have s1 : decide ((k : Int) < (k : Int)) = false := decide_eq_false (by omega)
              rw [hol]
              go_wp2_with fail
              have HH2 := Lib.hid HH.out
              go_loopw [12] (fun jv wi => ∃ j : Nat, k ≤ j ∧ j ≤ 200 ∧ jv = .int .i64 j ∧ Hid (∀ i, k ≤ i → i < j → h i = 0) ∧ wi = wr) (fun i _ => 200 - (intOf i).toNat)
              case atStart => exact ⟨k, Nat.le_refl _, by omega, rfl, fun i h1 h2 => absurd h2 (by omega), rfl⟩
              case round =>
                obtain ⟨j, hj1, hj2, rfl, hz, rfl⟩ := hrel
                by_cases hjl : j < 200
                · have e1 := hHi.cell j hjl
                  obtain ⟨v, hv⟩ : ∃ v, h j = v := ⟨_, rfl⟩
                  rw [hv] at e1
                  have HV := Lib.hid hv
                  clear hv
                  have s3 : decide ((j : Int) < 200) = true := decide_eq_true (by omega)
                  by_cases hv0 : v = 0
                  · subst hv0
                    go_wp2_with fail
                    go_roundw
                    case rel => exact ⟨j + 1, by omega, by omega, by go_num, fun i h1 h2 => by
                      by_cases h3 : i = j
                      · rw [h3]; exact HV.out
                      · exact hz.out i h1 (by omega), trivial⟩
                    case measure => simp [intOf]; omega
                  · have s2 : ((v : Int) != 0) = true := by rw [bne_iff_ne]; omega
                    have hj6 := HR.out
                    rw [join_over h4 HE3.out HH2.out.1 j hj1 hjl (by rw [HV.out]; exact hv0)] at hj6
                    obtain ⟨rfl, rfl⟩ := hj6
                    go_wp2_with fail
                    go_ret2
                    exact ⟨rfl, hBi⟩
                · have s3 : decide ((j : Int) < 200) = false := decide_eq_false (by omega)
                  have hj7 := HR.out
                  rw [join_yes h4 HE3.out HH2.out.1 (fun i h1 h2 => hz.out i h1 (by omega)), ← HH2.out.2] at hj7
                  obtain ⟨rfl, rfl⟩ := hj7
                  have hct : (convert 48 9 (.slice p8 k c8)).run Tryd.prog wr = .ok (.string ⟨out.toArray⟩) wr := by
                    have := to_text hC8
                    rw [hol] at this; exact this
                  go_wp2_with fail
                  go_ret2
                  exact ⟨rfl, hBi⟩
end Go.Proofs.YtaflpdagehocfaaDoor.Part
