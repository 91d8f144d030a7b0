/- LpmLongest: the longest prefix tells the next hop: for every input, the row's handle laid as the card says. -/
import Derived.Test.YtapaglapngbbpaaDoorCards
import Derived.Test.YtapaglapngbbpaaDoorTie
import Derived.Deep.DeepHandedRow
import Derived.Lib.LaidTab
import Derived.LaidHandle
import Derived.SevenTiedAt
import Derived.Test.YtapaglapngbbpaaDoorLpmRouted
import Derived.Test.YtapaglapngbbpaaDoorLpmRoutes
import Derived.Test.YtapaglapngbbpaaDoorCidrIn
import Derived.Test.YtapaglapngbbpaaDoorCidrRef1
import Derived.Test.YtapaglapngbbpaaDoorAs
namespace Go.Proofs.YtapaglapngbbpaaDoor.LpmLongestL
open Go.ChangeShapes Go.WideShapes Go.ChangeAt Go.RowKit Go.Sort Go.Proofs.YtapaglapngbbpaaDoor.Kit Go.Proofs.YtapaglapngbbpaaDoor.App Go.Proofs.YtapaglapngbbpaaDoor.Cells Go.Proofs.YtapaglapngbbpaaDoor.Cidr Go.Proofs.YtapaglapngbbpaaDoor.CidrMath Go.Proofs.YtapaglapngbbpaaDoor.RouteMath Go.Proofs.YtapaglapngbbpaaDoor.Route Go.Proofs.YtapaglapngbbpaaDoor.Lpm Go.Proofs.YtapaglapngbbpaaDoor.As
set_option linter.unusedVariables false
set_option maxRecDepth 20000

set_option maxHeartbeats 4000000 in
theorem core (p : Option Addr) (cap n : Nat) (ls : List (List Int)) (a : Int) (w : World) (hH : Handle w) (hn : n = ls.length) (hR : RowsI w p cap ls) :
    Calls Tryd.prog 3 #[.slice p n cap, .int .i64 a] w fun e w' => e = .returned (.bool true) ∧ Below w.heap.size w w' := by
  have HH := Lib.hid (fun W (hb : Below w.heap.size w W) => hH.below hb)
  clear hH
  have HR := Lib.hid hR
  have F := Lib.hid (fun W => fact_any W)
  have RT := Lib.hid (fun W (h : RowsI W p cap ls) => routed_any p cap n ls W hn h)
  clear hn hR
  go_enter Tryd.func3, Tryd.ntmps3
  go_wp2_with fail
  refine (F.out _).mono ?_; rintro e w1 ⟨rfl, hB1⟩
  clear F
  go_wp2_with fail
  refine (RT.out w1 (HR.out.below (hB1.mono (Nat.le_refl _)))).mono ?_; rintro e w2 ⟨l, rfl, hT2, hG, hb2⟩
  have hB2 := bcall hB1 hb2
  clear hB1 hb2 RT HR
  generalize w1.heap.size = g at hT2 ⊢
  have HG := Lib.hid hG
  have HT2 := Lib.hid hT2
  clear hT2
  obtain ⟨m, hm⟩ : ∃ m, l.length = m := ⟨_, rfl⟩
  have m32 : m ≤ 32 := by rw [← hm]; exact HG.out.len
  go_wp2_with fail
  refine (tabRoutes_any g m l w2 hm.symm HT2.out).mono ?_; rintro e w3 ⟨v3, rfl, hO3, hb3⟩
  obtain ⟨p3, c3, rfl, hCI⟩ := OC.form hO3
  rw [hm]
  have hB3 := bcall hB2 hb3
  have HT3 := Lib.hid (HT2.out.below hb3 HT2.out.lt)
  have HCI3 := Lib.hid hCI
  have HM := Lib.hid hm
  clear hm hCI hO3 hb3 HT2 hB2 hG
  by_cases ha : 0 ≤ a ∧ a ≤ 65535
  · obtain ⟨z, rfl⟩ : ∃ z : Nat, a = (z : Int) := ⟨a.toNat, by omega⟩
    have hz : z ≤ 65535 := by omega
    cases ho : findR l z with
    | none =>
      have ff : fnd l (z : Int) = none := by unfold fnd; rw [if_pos (by omega), Int.toNat_natCast, ho]
      have fe : fndE l (z : Int) = 5 := by unfold fndE; rw [if_pos (by omega), Int.toNat_natCast, ho]; rfl
      have C1 := Lib.hid (fun W hT => find_all g (z : Int) l W hT HG.out)
      rw [ff, fe] at C1
      simp only [foundH, foundL, er_5] at C1
      clear ff fe
      go_wp2_with fail
      refine (C1.out w3 HT3.out).mono ?_; rintro e w4 ⟨rfl, hb4⟩
      have hB4 := bcall hB3 hb4
      have HCI := Lib.hid (HCI3.out.below hb4)
      clear hb4 hB3 HT3 HCI3 C1
      go_wp2_with fail
      refine (in_any (z : Int) 0 65535 w4 true (by rw [decide_eq_true (by omega), decide_eq_true (by omega)]; rfl)).mono ?_; rintro e w4 ⟨rfl, rfl⟩
      have HO := Lib.hid ho
      clear ho
      go_wp2_with fail
      go_loopw [12] (fun iv wr => ∃ k : Nat, k ≤ m ∧ iv = .int .i64 (k : Int) ∧ Below w4.heap.size w4 wr) (fun i _ => m - (intOf i).toNat)
      case atStart => exact ⟨0, Nat.zero_le _, rfl, brefl w4⟩
      case round =>
        obtain ⟨k, hk, rfl, hB⟩ := hrel
        by_cases hkm : k < m
        · have t1 : decide ((k : Int) < (m : Int)) = true := decide_eq_true (by omega)
          have hw1 : IntKind.i64.wrap ((k : Int) + 1) = ((k + 1 : Nat) : Int) := by rw [IntKind.wrap_i64]; omega
          obtain ⟨⟨ya, yb, yh⟩, hy⟩ : ∃ y, l[k]? = some y := ⟨_, List.getElem?_eq_getElem (by have := HM.out; omega)⟩
          obtain ⟨bb, off, rfl, hbb, hc⟩ := HCI.out.2.2 (by have := HM.out; omega)
          have K := Lib.hid (fun (W : World) (hb : Below w4.heap.size w4 W) => show W.cell? ⟨bb, off + k * 3, none⟩ = some (.int .i64 ya) ∧ W.cell? ⟨bb, off + k * 3 + 1, none⟩ = some (.int .i64 yb) ∧ W.cell? ⟨bb, off + k * 3 + 2, none⟩ = some (.int .i64 yh) from
            ⟨(hb.cell (p := ⟨bb, off + k * 3, none⟩) hbb).trans (hc k _ hy 0 _ rfl), (hb.cell (p := ⟨bb, off + k * 3 + 1, none⟩) hbb).trans (hc k _ hy 1 _ rfl), (hb.cell (p := ⟨bb, off + k * 3 + 2, none⟩) hbb).trans (hc k _ hy 2 _ rfl)⟩)
          have hgood := HG.out.good _ (List.mem_of_getElem? hy)
          have PX := Lib.hid (fun W => rprefix_any ⟨ya, yb⟩ W 0 ((good_iff _).2 hgood).symm)
          unfold Cidr.val at PX
          simp only at PX
          obtain ⟨c0, c1, c2⟩ := K.out wr hB
          have HY := Lib.hid hy
          have HGD := Lib.hid hgood
          clear hc hbb hy hgood c2
          go_wp2_with fail
          refine (PX.out wr).mono ?_; rintro e w5 ⟨rfl, hg5⟩
          have hB5 := lgr hB hB.size hg5
          obtain ⟨c50, c51, c52⟩ := K.out w5 hB5
          clear hg5 hB c0 c1 PX
          go_wp2_with fail
          have hh : ¬ has ⟨ya, yb⟩ z := find_none.1 HO.out _ (List.mem_of_getElem? HY.out)
          refine (rIn_any ⟨ya, yb⟩ HGD.out (z : Int) ⟨by omega, by omega⟩ w5 false (by show false = true ↔ ya ≤ (z : Int) ∧ (z : Int) < ya + siz ⟨ya, yb⟩; exact ⟨fun h => by simp at h, fun h => absurd h hh⟩)).mono ?_; rintro e w6 ⟨rfl, hg6⟩
          have hg6 : Gr w5 w6 := hg6
          have hB6 := lgr hB5 hB5.size hg6
          obtain ⟨c60, c61, c62⟩ := K.out w6 hB6
          clear hg6 hB5 c50 c51 c52 K HGD
          go_wp2_with fail
          go_roundw
          case rel => exact ⟨k + 1, by omega, rfl, hB6⟩
          case measure => simp [intOf]; omega
        · have t1 : decide ((k : Int) < (m : Int)) = false := decide_eq_false (by omega)
          have hBr := bcall hB4 hB
          have ER := Lib.hid (error_hit 5 5 wr (HH.out wr hBr))
          go_wp2_with fail
          refine ER.out.mono ?_; rintro e w5 ⟨rfl, hb5⟩
          have hB5 := bcall hBr hb5
          go_wp2_with fail
          go_ret
          exact ⟨rfl, hB5⟩
    | some x =>
      obtain ⟨xa, xb, xh⟩ := x
      have ff : fnd l (z : Int) = some ⟨xa, xb, xh⟩ := by unfold fnd; rw [if_pos (by omega), Int.toNat_natCast, ho]
      have fe : fndE l (z : Int) = 0 := by unfold fndE; rw [if_pos (by omega), Int.toNat_natCast, ho]; rfl
      have C1 := Lib.hid (fun W hT => find_all g (z : Int) l W hT HG.out)
      rw [ff, fe] at C1
      simp only [foundH, foundL, er_0] at C1
      clear ff fe
      go_wp2_with fail
      refine (C1.out w3 HT3.out).mono ?_; rintro e w4 ⟨rfl, hb4⟩
      have hB4 := bcall hB3 hb4
      have HCI := Lib.hid (HCI3.out.below hb4)
      clear hb4 hB3 HT3 HCI3 C1
      go_wp2_with fail
      have HO := Lib.hid (find_some ho)
      clear ho
      go_loopw [11, 12] (fun fv iv wr => ∃ k : Nat, k ≤ m ∧ iv = .int .i64 (k : Int) ∧ ∃ b : Bool, fv = .bool b ∧ Hid ((⟨xa, xb, xh⟩ : Rt) ∈ l.take k → b = true) ∧ Below w4.heap.size w4 wr) (fun _ i _ => m - (intOf i).toNat)
      case atStart => exact ⟨0, Nat.zero_le _, rfl, false, rfl, Lib.hid (fun h => by simp at h), brefl w4⟩
      case round =>
        obtain ⟨k, hk, rfl, b, rfl, HX, hB⟩ := hrel
        by_cases hkm : k < m
        · have t1 : decide ((k : Int) < (m : Int)) = true := decide_eq_true (by omega)
          have hw1 : IntKind.i64.wrap ((k : Int) + 1) = ((k + 1 : Nat) : Int) := by rw [IntKind.wrap_i64]; omega
          obtain ⟨⟨ya, yb, yh⟩, hy⟩ : ∃ y, l[k]? = some y := ⟨_, List.getElem?_eq_getElem (by have := HM.out; omega)⟩
          obtain ⟨bb, off, rfl, hbb, hc⟩ := HCI.out.2.2 (by have := HM.out; omega)
          have K := Lib.hid (fun (W : World) (hb : Below w4.heap.size w4 W) => show W.cell? ⟨bb, off + k * 3, none⟩ = some (.int .i64 ya) ∧ W.cell? ⟨bb, off + k * 3 + 1, none⟩ = some (.int .i64 yb) ∧ W.cell? ⟨bb, off + k * 3 + 2, none⟩ = some (.int .i64 yh) from
            ⟨(hb.cell (p := ⟨bb, off + k * 3, none⟩) hbb).trans (hc k _ hy 0 _ rfl), (hb.cell (p := ⟨bb, off + k * 3 + 1, none⟩) hbb).trans (hc k _ hy 1 _ rfl), (hb.cell (p := ⟨bb, off + k * 3 + 2, none⟩) hbb).trans (hc k _ hy 2 _ rfl)⟩)
          have hgood := HG.out.good _ (List.mem_of_getElem? hy)
          have PX := Lib.hid (fun W => rprefix_any ⟨ya, yb⟩ W 0 ((good_iff _).2 hgood).symm)
          unfold Cidr.val at PX
          simp only at PX
          obtain ⟨c0, c1, c2⟩ := K.out wr hB
          have HY := Lib.hid hy
          have HGD := Lib.hid hgood
          clear hc hbb hy hgood c2
          go_wp2_with fail
          refine (PX.out wr).mono ?_; rintro e w5 ⟨rfl, hg5⟩
          have hB5 := lgr hB hB.size hg5
          obtain ⟨c50, c51, c52⟩ := K.out w5 hB5
          clear hg5 hB c0 c1 PX
          go_wp2_with fail
          have HX2 : ∀ c : Bool, (b = true ∨ (⟨xa, xb, xh⟩ : Rt) = ⟨ya, yb, yh⟩ → c = true) → ((⟨xa, xb, xh⟩ : Rt) ∈ l.take (k + 1) → c = true) := fun c hc h => by
            rw [List.take_add_one, HY.out] at h
            rcases List.mem_append.1 h with h | h
            · exact hc (.inl (HX.out h))
            · exact hc (.inr (by simpa using h))
          by_cases hh : has ⟨ya, yb⟩ z
          · have hle : yb ≤ xb := HO.out.long _ (List.mem_of_getElem? HY.out) hh
            have t2 : decide (yb > xb) = false := decide_eq_false (by omega)
            refine (rIn_any ⟨ya, yb⟩ HGD.out (z : Int) ⟨by omega, by omega⟩ w5 true (by show true = true ↔ ya ≤ (z : Int) ∧ (z : Int) < ya + siz ⟨ya, yb⟩; exact ⟨fun _ => hh, fun _ => rfl⟩)).mono ?_; rintro e w6 ⟨rfl, hg6⟩
            have hg6 : Gr w5 w6 := hg6
            have hB6 := lgr hB5 hB5.size hg6
            obtain ⟨c60, c61, c62⟩ := K.out w6 hB6
            clear hg6 hB5 c50 c51 c52 K HGD
            cases b with
            | true =>
              clear HX
              go_wp2_with fail
              go_roundw
              case rel => exact ⟨k + 1, by omega, rfl, true, rfl, Lib.hid (fun _ => rfl), hB6⟩
              case measure => simp [intOf]; omega
            | false =>
              by_cases q1 : yb = xb
              · have t3 : (yb == xb) = true := by rw [beq_iff_eq]; exact q1
                by_cases q2 : yh = xh
                · have t4 : (yh == xh) = true := by rw [beq_iff_eq]; exact q2
                  clear HX HX2 q1 q2
                  go_wp2_with fail
                  go_roundw
                  case rel => exact ⟨k + 1, by omega, rfl, true, rfl, Lib.hid (fun _ => rfl), hB6⟩
                  case measure => simp [intOf]; omega
                · have t4 : (yh == xh) = false := by rw [beq_eq_false_iff_ne]; exact q2
                  have HX3 := Lib.hid (HX2 false (fun h => by
                    rcases h with h | h
                    · simp at h
                    · exact absurd (congrArg Rt.hop h).symm q2))
                  clear HX HX2 q1 q2
                  go_wp2_with fail
                  go_roundw
                  case rel => exact ⟨k + 1, by omega, rfl, false, rfl, HX3, hB6⟩
                  case measure => simp [intOf]; omega
              · have t3 : (yb == xb) = false := by rw [beq_eq_false_iff_ne]; exact q1
                have HX3 := Lib.hid (HX2 false (fun h => by
                  rcases h with h | h
                  · simp at h
                  · exact absurd (congrArg Rt.len h).symm q1))
                clear HX HX2 q1
                go_wp2_with fail
                go_roundw
                case rel => exact ⟨k + 1, by omega, rfl, false, rfl, HX3, hB6⟩
                case measure => simp [intOf]; omega
          · have HX3 := Lib.hid (HX2 b (fun h => by
              rcases h with h | h
              · exact h
              · rw [Rt.mk.injEq] at h
                obtain ⟨rfl, rfl, rfl⟩ := h
                exact absurd HO.out.has hh))
            clear HX HX2
            refine (rIn_any ⟨ya, yb⟩ HGD.out (z : Int) ⟨by omega, by omega⟩ w5 false (by show false = true ↔ ya ≤ (z : Int) ∧ (z : Int) < ya + siz ⟨ya, yb⟩; exact ⟨fun h => by simp at h, fun h => absurd h hh⟩)).mono ?_; rintro e w6 ⟨rfl, hg6⟩
            have hg6 : Gr w5 w6 := hg6
            have hB6 := lgr hB5 hB5.size hg6
            obtain ⟨c60, c61, c62⟩ := K.out w6 hB6
            clear hg6 hB5 c50 c51 c52 K HGD
            go_wp2_with fail
            go_roundw
            case rel => exact ⟨k + 1, by omega, rfl, b, rfl, HX3, hB6⟩
            case measure => simp [intOf]; omega
        · have t1 : decide ((k : Int) < (m : Int)) = false := decide_eq_false (by omega)
          have hBr := bcall hB4 hB
          obtain rfl : b = true := HX.out (by
            rw [List.take_of_length_le (by have := HM.out; omega)]
            exact HO.out.mem)
          go_wp2_with fail
          go_ret
          exact ⟨rfl, hBr⟩
  · have ff : fnd l a = none := by unfold fnd; rw [if_neg ha]
    have fe : fndE l a = 1 := by unfold fndE; rw [if_neg ha]
    have C1 := Lib.hid (fun W hT => find_all g a l W hT HG.out)
    rw [ff, fe] at C1
    simp only [foundH, foundL, er_1] at C1
    clear ff fe
    go_wp2_with fail
    refine (C1.out w3 HT3.out).mono ?_; rintro e w4 ⟨rfl, hb4⟩
    have hB4 := bcall hB3 hb4
    have HCI := Lib.hid (HCI3.out.below hb4)
    clear hb4 hB3 HT3 HCI3 C1
    go_wp2_with fail
    refine (in_any a 0 65535 w4 false (by by_cases h : 0 ≤ a <;> simp [h]; omega)).mono ?_; rintro e w4 ⟨rfl, rfl⟩
    have ER := Lib.hid (error_hit 1 1 w4 (HH.out w4 hB4))
    go_wp2_with fail
    refine ER.out.mono ?_; rintro e w5 ⟨rfl, hb5⟩
    have hB5 := bcall hB4 hb5
    go_wp2_with fail
    go_ret
    exact ⟨rfl, hB5⟩

theorem reads : Tryd.f3.params.toList.all (fun t => Tryd.prog.readableRec t && decide (t < Tryd.prog.types.size)) = true := by kernel_rfl
theorem et : Tryd.prog.globalNamed "errors.errorType" = some 0 := by kernel_rfl
theorem rt : (Tryd.prog.cutTypes.find? (·.1 == "internal/reflectlite.rtype")).map (·.2) = some 86 := by kernel_rfl
theorem oneRow : ((List.range Tryd.prog.types.size).filter fun t => Tryd.prog.rowNamed t [101, 114, 114, 111, 114]) = [29] := by kernel_rfl

theorem handle_of_laid {W : World} (h : laidMetH Tryd.prog Rows.lpmLongestRow.laid W) : Handle W := by
  have h' : laidMet Tryd.prog [] W ∧ handlesMet Tryd.prog Rows.lpmLongestRow.laid W := h
  obtain ⟨name, u, ty, e1, e2, e3, e4, e5⟩ := h'.2 _ (List.mem_singleton.2 rfl)
  have en : name = [101, 114, 114, 111, 114] := (Option.some.inj e1).symm
  subst en
  obtain rfl := Option.some.inj (rt.symm.trans e2)
  have hm : ty ∈ (List.range Tryd.prog.types.size).filter fun t => Tryd.prog.rowNamed t [101, 114, 114, 111, 114] := List.mem_filter.2 ⟨List.mem_range.2 e3, e4⟩
  rw [oneRow] at hm
  obtain rfl := List.mem_singleton.1 hm
  have hh : typeHandle Tryd.prog 29 = .pointer (some ⟨1, 29, none⟩) := by kernel_rfl
  rw [hh] at e5
  have e6 := World.var?_cell et e5 0
  unfold Handle
  simpa using e6

noncomputable def laidWorld (os : Os) : World :=
  { World.holding Tryd.prog os ⟨#[], #[], []⟩ with heap := (World.holding Tryd.prog os ⟨#[], #[], []⟩).heap.modify 0 fun
      | .cells _ t frozen => .cells #[.iface 86 (.agg #[.pointer (some ⟨1, 29, none⟩)])] t frozen
      | o => o }
theorem laid_met (os : Os) : laidMetH Tryd.prog Rows.lpmLongestRow.laid ((laidWorld os).forCall (fun _ _ => 0) ⟨#[], #[.slice none 0 0, .int .i64 0], []⟩).memory :=
  laidMetH_of_parts (laidMet_nil _ _) (by kernel_rfl)
theorem reads_wit (os : Os) {H : Type} (enc : TypeId × Value → H) : ∃ places, DataW.whole enc Tryd.prog ((laidWorld os).forCall (fun _ _ => 0) ⟨#[], #[.slice none 0 0, .int .i64 0], []⟩).memory Tryd.f3.params.toList Rows.lpmLongestSpec.vars false (#[.slice none 0 0, .int .i64 0] : Array Value).toList 8 = some ([.nil, .lit (.int .i64 0)], [], places) :=
  ⟨[], by kernel_rfl⟩

theorem contract (H : Type) (enc : TypeId × Value → H) (W : World) (base : Nat) (args : Array Value) (ds gs : List (DataW H)) (before : List MemPlace)
    (hval : ∀ (j : Nat) t v, Tryd.f3.params[j]? = some t → args[j]? = some v → Value.okWide Tryd.prog W .any base t v)
    (hW : DataW.Whole enc Tryd.prog Tryd.f3.params.toList Rows.lpmLongestSpec.vars false W args.toList ds gs before) (hL : laidMetH Tryd.prog Rows.lpmLongestRow.laid W) :
    Calls Tryd.prog 3 args W fun e W' => ∃ v, e = .returned v ∧ Rows.lpmLongestSpec.post enc Tryd.prog Tryd.f3 false true false false W args v W' := by
  have hW' := hW
  have hg := handle_of_laid hL
  obtain ⟨p, q, hA0, hV, rfl, hfz, hnd⟩ := hW
  have hA : DataW.TrodAll enc Tryd.prog W 0 (fun _ => true) true Tryd.f3.params.toList args.toList ds p := hA0
  have hlt := hA.lt
  rw [Tryd.params3] at hA hval
  obtain ⟨v0, vs0, d0, ds0, p0, q0, hargs, rfl, rfl, h0, r0⟩ := trodAll_cons hA
  obtain ⟨v1, vs1, d1, ds1, p1, q1, hvs1, rfl, rfl, h1, r1⟩ := trodAll_cons r0
  obtain ⟨hvsn, rfl, rfl⟩ := trodAll_nil r1
  simp only [hvsn, hvs1] at hargs
  obtain rfl : args = #[v0, v1] := by cases args; simp_all
  obtain ⟨p0a, cap0, l0, rfl, i0, e0⟩ := open_rows Tryd.underlying22 Tryd.underlying48 Tryd.underlying3 (by kernel_rfl) (by kernel_rfl) (hval 0 22 v0 rfl rfl) h0 (fun x hx => hlt x (by simp [hx]))
  obtain ⟨a1, rfl, rfl, rfl, w1⟩ := open_int Tryd.underlying3 (hval 1 3 v1 rfl rfl) h1
  have b1 := bounds_int w1
  obtain ⟨rfl, rfl⟩ := trodVars_none hV
  clear hA0
  exact law_post 4 laid reads rfl Tryd.underlying4 rfl hW' ⟨rfl, rfl, rfl⟩ (core _ _ _ l0 a1 W hg rfl i0)

set_option maxRecDepth 100000 in
theorem lifted (os : Os) (started : os.Started) (H : Type) (enc : TypeId × Value → H) (F : Stop.Interp) :
    ReturnsInHanded {} Tryd.checked os 3 .any ((OpenSpec.ofChange Rows.lpmLongestSpec).preRow enc Tryd.prog Tryd.f3 Rows.lpmLongestRow.domain false Rows.lpmLongestRow.laid) (((OpenSpec.ofChange Rows.lpmLongestSpec).at F).post enc Tryd.prog Tryd.f3 false true false false) := by
  obtain ⟨places, hx⟩ := reads_wit os enc
  refine returnsInHanded_of_row (C := Tryd.checked) (s := (OpenSpec.ofChange Rows.lpmLongestSpec)) own started (by kernel_rfl) Tryd.func3
    (witness_row_at (enc := enc) (C := Tryd.checked) false (laidWorld os) #[.slice none 0 0, .int .i64 0] rfl (by kernel_rfl) (by kernel_rfl) (by kernel_rfl)
      (OpenSpec.preRow_of_cond 8 hx (by kernel_rfl) (fun k hk => by cases hk) (by kernel_rfl) (laid_met os))) ?_
  intro W base args ds gs before hval hW _ hcond _ hL _ _
  exact contract H enc W base args ds gs before hval hW hL

theorem said : Rows.LpmLongestSaid :=
  OpenClaim.holds_of_cond 3 Tryd.f3 rfl rfl rfl rfl rfl rfl rfl ⟨rfl, rfl, rfl, rfl, rfl⟩ rfl rfl rfl rfl rfl (by kernel_rfl) Tryd.func3 (by kernel_rfl)
    (of_decide_eq_true (by kernel_rfl)) (by unfold Func.isWrapper; first | (rw [if_pos (by decide +kernel)]; kernel_rfl) | (rw [if_neg (by decide +kernel)]; exact ⟨rfl, rfl⟩))
    (fun os started H enc _ F => by rw [OpenClaim.pre_eq_preRow]; exact lifted os started H enc F)

theorem plain (f : FuncId) (fn : Func) (hf : Tryd.pinned.checked.prog.funcNamed Rows.lpmLongestRow.func = some f) (hfn : Tryd.pinned.checked.prog.funcs[f]? = some fn) :
    true = Tryd.pinned.checked.prog.looks [] ∧ ∀ (j : Nat) t, fn.params[j]? = some t → Tryd.pinned.checked.prog.wantsStandIn t = false := by
  obtain rfl : f = 3 := Option.some.inj ((show Tryd.prog.funcNamed Rows.lpmLongestRow.func = some 3 by kernel_rfl).symm.trans hf) |>.symm
  obtain rfl : fn = Tryd.f3 := (Option.some.inj (Tryd.func3.symm.trans hfn)).symm
  refine ⟨by kernel_rfl, fun j t ht => ?_⟩
  have hall : Tryd.f3.params.toList.all (fun t => !Tryd.prog.wantsStandIn t) = true := by kernel_rfl
  have hm : t ∈ Tryd.f3.params.toList := by simpa using Array.mem_of_getElem? ht
  have := List.all_eq_true.1 hall t hm
  show Tryd.prog.wantsStandIn t = false
  simpa using this

theorem proved : Rows.LpmLongestCardSaid :=
  Claim7.holds_tied_plain_at .later [] _ _ _ _ said (fun _ h => by cases h) (by kernel_rfl) (fun _ h => by cases h) lpmLongest_row_tie rfl ⟨rfl, rfl⟩ (by kernel_rfl) rfl plain (by kernel_rfl)
end Go.Proofs.YtapaglapngbbpaaDoor.LpmLongestL
