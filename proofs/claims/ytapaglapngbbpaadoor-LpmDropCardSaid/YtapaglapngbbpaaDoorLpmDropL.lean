/- LpmDrop: a route set and dropped, and the table is as it was, if there was none: for every input, the row's handle laid as the card says. -/
import Derived.Test.YtapaglapngbbpaaDoorCards
import Derived.Test.YtapaglapngbbpaaDoorTie
import Derived.Deep.DeepHandedRow
import Derived.Lib.LaidTab
import Derived.LaidHandle
import Derived.SevenTiedAt
import Derived.Test.YtapaglapngbbpaaDoorLpmRouted
import Derived.Test.YtapaglapngbbpaaDoorLpmRoutes
import Derived.Test.YtapaglapngbbpaaDoorRouteSame
import Derived.Test.YtapaglapngbbpaaDoorAs
namespace Go.Proofs.YtapaglapngbbpaaDoor.LpmDropL
open Go.ChangeShapes Go.WideShapes Go.ChangeAt Go.RowKit Go.Sort Go.Proofs.YtapaglapngbbpaaDoor.Kit Go.Proofs.YtapaglapngbbpaaDoor.App Go.Proofs.YtapaglapngbbpaaDoor.Cells Go.Proofs.YtapaglapngbbpaaDoor.Cidr Go.Proofs.YtapaglapngbbpaaDoor.CidrMath Go.Proofs.YtapaglapngbbpaaDoor.RouteMath Go.Proofs.YtapaglapngbbpaaDoor.Route Go.Proofs.YtapaglapngbbpaaDoor.Lpm Go.Proofs.YtapaglapngbbpaaDoor.As
set_option linter.unusedVariables false
set_option maxRecDepth 20000

theorem box_kept {W W' : World} {b g : Nat} {r : Rt} (h : BoxR W b r) (hg : W.grownBy W' (some g)) (hne : b ≠ g) : BoxR W' b r := by
  have hk := hg.block b h.1 (fun e => hne (Option.some.inj e))
  exact ⟨Nat.lt_of_lt_of_le h.1 hg.size, (World.cell?_of_block (a := ⟨b, 0, none⟩) hk).trans h.2.1, (World.cell?_of_block (a := ⟨b, 1, none⟩) hk).trans h.2.2.1, (World.cell?_of_block (a := ⟨b, 2, none⟩) hk).trans h.2.2.2⟩
theorem ci_kept {W W' : World} {p : Option Addr} {c g : Nat} {l : List Rt} (h : CI layR W p c l) (hg : W.grownBy W' (some g)) (hne : ∀ a, p = some a → a.block ≠ g) : CI layR W' p c l :=
  h.keep hg.size (fun a ha hlt => hg.block _ hlt (fun e => hne a ha (Option.some.inj e)))
theorem form2 {w : World} {base : Nat} {v : Value} {ls : List Rt} (h : OC layR 38 w base v ls) : ∃ p cap, v = .slice p ls.length cap ∧ CI layR w p cap ls ∧ ∀ a, p = some a → base ≤ a.block := by
  have h0 := h
  obtain ⟨p, cap, rfl, hc⟩ := OC.form h0
  refine ⟨p, cap, rfl, hc, fun a ha => ?_⟩
  subst ha
  obtain ⟨hl, ⟨e, _⟩ | ⟨g, c, cur, e, hb, _⟩⟩ := h
  · simp at e
  · simp only [Value.slice.injEq, Option.some.injEq] at e
    rw [e.1]; exact hb
theorem take_is {l : List Rt} {k : Nat} {x : Rt} (hx : l[k]? = some x) (q : Pfx) (b B : Bool) (hb : b = true ↔ ∃ y ∈ l.take k, key y = q) (hB : B = true ↔ key x = q) (c : Bool) (hc : c = (b || B)) : c = true ↔ ∃ y ∈ l.take (k + 1), key y = q := by
  rw [hc, Bool.or_eq_true, hb, hB, List.take_add_one, hx]
  constructor
  · rintro (⟨y, hy, e⟩ | e)
    · exact ⟨y, List.mem_append_left _ hy, e⟩
    · exact ⟨x, List.mem_append_right _ (by simp), e⟩
  · rintro ⟨y, hy, e⟩
    rcases List.mem_append.1 hy with h | h
    · exact .inl ⟨y, h, e⟩
    · right
      simp only [Option.toList_some, List.mem_singleton] at h
      rw [← h]; exact e
theorem setN_len {l : List Rt} {r : Rt} (h0 : setC l r = 0) : (setN l r).length = l.length + (if Is l (key r) then 0 else 1) := by
  unfold setN
  rw [if_pos h0, set_len l r _ decide_eq_true_iff]
  by_cases h : Is l (key r)
  · rw [if_pos (by simpa using h), if_pos h]
  · rw [if_neg (by simpa using h), if_neg h]
theorem drop_new {l : List Rt} (hG : GT l) {r : Rt} (h0 : setC l r = 0) (hn : ¬ Is l (key r)) : dropC (setN l r) (key r) = 0 ∧ dropN (setN l r) (key r) = l ∧ dropC l (key r) = 5 := by
  have hk := (set_code h0).1
  have e : setN l r = setR l r false := by unfold setN; rw [if_pos h0, decide_eq_false hn]
  obtain ⟨h1, h2⟩ := drop_set hG.sorted r hn
  have c1 : dropC (setR l r false) (key r) = 0 := by unfold dropC; rw [if_neg (by simpa using hk), if_pos h2]
  refine ⟨by rw [e]; exact c1, by rw [e]; unfold dropN; rw [if_pos c1]; exact h1, ?_⟩
  unfold dropC
  rw [if_neg (by simpa using hk), if_neg hn]
theorem setN_err {l : List Rt} {r : Rt} (h0 : ¬ setC l r = 0) : setN l r = l := by unfold setN; rw [if_neg h0]
set_option maxHeartbeats 4000000 in
theorem core (p : Option Addr) (cap n : Nat) (ls : List (List Int)) (r : Rt) (w : World) (hH : Handle w) (hn : n = ls.length) (hR : RowsI w p cap ls) :
    Calls Tryd.prog 4 #[.slice p n cap, .agg #[.int .i64 r.adr, .int .i64 r.len, .int .i64 r.hop]] w fun e w' => e = .returned (.bool true) ∧ Below w.heap.size w w' := by
  have HH := Lib.hid (fun W (hb : Below w.heap.size w W) => hH.below hb)
  clear hH
  have HR := Lib.hid hR
  have F := Lib.hid (fun W => fact_any W)
  have RT := Lib.hid (fun W (h : RowsI W p cap ls) => routed_any p cap n ls W hn h)
  have B0 := BoxR.new w r 38
  clear hn hR
  go_enter Tryd.func4, Tryd.ntmps4
  go_wp2_with fail
  refine (F.out _).mono ?_; rintro e w1 ⟨rfl, hb1⟩
  have hB1 : Below w.heap.size w w1 := bcall (balloc (brefl w) _) hb1
  have BX1 := Lib.hid (B0.below hb1 B0.1)
  have HS := Lib.hid (show w.heap.size < w1.heap.size from BX1.out.1)
  clear B0 hb1 F
  go_wp2_with fail
  refine (RT.out w1 (HR.out.below hB1)).mono ?_; rintro e w2 ⟨l, rfl, hT2, hG, hb2⟩
  have hB2 := bcall hB1 hb2
  have BX2 := Lib.hid (BX1.out.below hb2 BX1.out.1)
  clear hB1 hb2 BX1 RT HR
  generalize w1.heap.size = g at hT2 HS ⊢
  have HG := Lib.hid hG
  have HT2 := Lib.hid hT2
  clear hT2
  obtain ⟨ra, rb, rh⟩ := r
  obtain ⟨m, hm⟩ : ∃ m, l.length = m := ⟨_, rfl⟩
  have m32 : m ≤ 32 := by rw [← hm]; exact HG.out.len
  go_wp2_with fail
  refine (tabRoutes_any g m l w2 hm.symm HT2.out).mono ?_; rintro e w3 ⟨v3, rfl, hO3, hb3⟩
  obtain ⟨p3, c3, rfl, hCI, hpb⟩ := form2 hO3
  rw [hm]
  have hB3 := bcall hB2 hb3
  have HT3 := Lib.hid (HT2.out.below hb3 HT2.out.lt)
  have BX3 := Lib.hid (BX2.out.below hb3 BX2.out.1)
  have HNE := Lib.hid (show ∀ a, p3 = some a → a.block ≠ g from fun a ha => Nat.ne_of_gt (Nat.lt_of_lt_of_le HT2.out.lt (hpb a ha)))
  have HCI := Lib.hid hCI
  have HM := Lib.hid hm
  clear hm hCI hO3 hb3 hpb HT2 BX2 hB2 hG
  go_wp2_with fail
  go_loopw [8, 9] (fun hv iv wr => ∃ k : Nat, k ≤ m ∧ iv = .int .i64 (k : Int) ∧ ∃ b : Bool, hv = .bool b ∧ Hid (b = true ↔ ∃ x ∈ l.take k, key x = ⟨ra, rb⟩) ∧ Below w3.heap.size w3 wr) (fun _ i _ => m - (intOf i).toNat)
  case atStart => exact ⟨0, Nat.zero_le _, rfl, false, rfl, Lib.hid (by simp), brefl w3⟩
  case round =>
    obtain ⟨k, hk, rfl, b, rfl, Hb, hB⟩ := hrel
    by_cases hkm : k < m
    · have t1 : decide ((k : Int) < (m : Int)) = true := decide_eq_true (by omega)
      have hw1 : IntKind.i64.wrap ((k : Int) + 1) = ((k + 1 : Nat) : Int) := by rw [IntKind.wrap_i64]; omega
      obtain ⟨x, hx⟩ : ∃ x, l[k]? = some x := ⟨_, List.getElem?_eq_getElem (by have := HM.out; omega)⟩
      obtain ⟨B, hBB⟩ : ∃ B : Bool, B = (x.adr == ra && x.len == rb) := ⟨_, rfl⟩
      have hBk : B = true ↔ key x = ⟨ra, rb⟩ := by
        rw [hBB, Bool.and_eq_true, beq_iff_eq, beq_iff_eq]
        unfold key
        rw [Pfx.mk.injEq]
      cases b with
      | true =>
        have HB2 := Lib.hid (take_is hx ⟨ra, rb⟩ true B Hb.out hBk true rfl)
        clear hx hBB hBk Hb
        go_wp2_with fail
        go_quiet (fail)
        go_wp2_with fail
        go_roundw
        case rel => exact ⟨k + 1, by omega, rfl, true, rfl, Lib.hid (by simpa using HB2.out), below_drewN hB _⟩
        case measure => simp [intOf]; omega
      | false =>
        have HB2 := Lib.hid (take_is hx ⟨ra, rb⟩ false B Hb.out hBk B rfl)
        have E : ∀ W, (Op.equalIn 10000 36 (.agg #[.int .i64 x.adr, .int .i64 x.len]) (.agg #[.int .i64 ra, .int .i64 rb])).run Tryd.prog W = .ok B W := fun W => by rw [eqX, ← hBB]
        obtain ⟨bb, off, rfl, hbb, hc⟩ := HCI.out.2.2 (by have := HM.out; omega)
        have e0 : wr.cell? ⟨bb, off + k * 3, none⟩ = some (.int .i64 x.adr) := (hB.cell (p := ⟨bb, off + k * 3, none⟩) hbb).trans (hc k x hx 0 _ rfl)
        have e1 : wr.cell? ⟨bb, off + k * 3 + 1, none⟩ = some (.int .i64 x.len) := (hB.cell (p := ⟨bb, off + k * 3 + 1, none⟩) hbb).trans (hc k x hx 1 _ rfl)
        obtain ⟨_, b0, b1, b2⟩ := BX3.out.below hB BX3.out.1
        simp only at b0 b1 b2
        clear hx hBB hBk Hb hc
        generalize x.adr = xa at e0 E
        generalize x.len = xb at e1 E
        go_wp2_with fail
        go_quiet (fail)
        go_wp2_with fail
        go_roundw
        case rel => exact ⟨k + 1, by omega, rfl, B, rfl, HB2, below_drewN hB _⟩
        case measure => simp [intOf]; omega
    · obtain rfl : k = m := by omega
      have t1 : decide ((k : Int) < (k : Int)) = false := decide_eq_false (by omega)
      have HIS : Hid (b = true ↔ Is l ⟨ra, rb⟩) := Lib.hid (by
        rw [is_iff HG.out.sorted]
        have h := Hb.out
        rw [List.take_of_length_le (by rw [HM.out]; exact Nat.le_refl _)] at h
        exact h)
      obtain ⟨w4, hw4⟩ : ∃ w4, w4 = wr := ⟨_, rfl⟩
      subst hw4
      have HT4 := Lib.hid (HT3.out.below hB HT3.out.lt)
      have BX4 := Lib.hid (BX3.out.below hB BX3.out.1)
      have HC4 := Lib.hid (HCI.out.below hB)
      have hB4 := bcall hB3 hB
      obtain ⟨_, b0, b1, b2⟩ := BX4.out
      simp only at b0 b1 b2
      have SC := Lib.hid (fun W hT => set_any g l ⟨ra, rb, rh⟩ W hT HG.out)
      simp only at SC
      clear HT3 BX3 HCI hB hB3 Hb
      by_cases hs : setC l ⟨ra, rb, rh⟩ = 0
      · rw [hs, er_0] at SC
        go_wp2_with fail
        refine (SC.out w4 HT4.out).mono ?_; rintro e w5 ⟨rfl, hT5, hg5⟩
        have hB5 := bgrown hB4 (Nat.le_refl _) hg5 (Nat.le_of_lt HS.out)
        have BX5 := Lib.hid (box_kept BX4.out hg5 (Nat.ne_of_lt HS.out))
        have HC5 := Lib.hid (ci_kept HC4.out hg5 HNE.out)
        have HT5 := Lib.hid hT5
        clear hT5 hg5 b0 b1 b2 BX4 HC4 HT4 SC
        by_cases hi : Is l ⟨ra, rb⟩
        · obtain rfl : b = true := HIS.out.2 hi
          have hlen : k = (setN l ⟨ra, rb, rh⟩).length := by rw [setN_len hs, if_pos (show Is l (key ⟨ra, rb, rh⟩) from hi), HM.out]; rfl
          go_wp2_with fail
          refine (tabRoutes_any g k (setN l ⟨ra, rb, rh⟩) w5 hlen HT5.out).mono ?_; rintro e w6 ⟨v6, rfl, hO6, hb6⟩
          obtain ⟨p6, c6, rfl, hCI6, _⟩ := form2 hO6
          have hB6 := bcall hB5 hb6
          have HT6 := Lib.hid (HT5.out.below hb6 HT5.out.lt)
          rw [← hlen]
          clear hO6 hCI6 hlen
          go_wp2_with fail
          go_ret
          exact ⟨rfl, hB6⟩
        · obtain rfl : b = false := by
            cases b with
            | false => rfl
            | true => exact absurd (HIS.out.1 rfl) hi
          have hlen : k + 1 = (setN l ⟨ra, rb, rh⟩).length := by rw [setN_len hs, if_neg (show ¬ Is l (key ⟨ra, rb, rh⟩) from hi), HM.out]
          obtain ⟨hd1, hd2, hd3⟩ := drop_new HG.out hs hi
          have D1 := Lib.hid (fun W hT => drop_any g (setN l ⟨ra, rb, rh⟩) ⟨ra, rb⟩ W hT (HG.out.set _))
          have D2 := Lib.hid (fun W hT => drop_any g l ⟨ra, rb⟩ W hT HG.out)
          simp only [key] at hd1 hd2 hd3
          rw [hd1, hd2, er_0] at D1
          rw [hd3, er_5] at D2
          simp only at D1 D2
          have hwk : IntKind.i64.wrap ((k : Int) + 1) = ((k + 1 : Nat) : Int) := by rw [IntKind.wrap_i64]; omega
          clear hd1 hd2 hd3
          go_wp2_with fail
          refine (tabRoutes_any g (k + 1) (setN l ⟨ra, rb, rh⟩) w5 hlen HT5.out).mono ?_; rintro e w6 ⟨v6, rfl, hO6, hb6⟩
          obtain ⟨p6, c6, rfl, hCI6, _⟩ := form2 hO6
          have hB6 := bcall hB5 hb6
          have HT6 := Lib.hid (HT5.out.below hb6 HT5.out.lt)
          rw [← hlen]
          have BX6 := Lib.hid (BX5.out.below hb6 BX5.out.1)
          have HC6 := Lib.hid (HC5.out.below hb6)
          obtain ⟨_, b0, b1, b2⟩ := BX6.out
          simp only at b0 b1 b2
          clear hO6 hCI6 hlen hb6 HT5 BX5 HC5 hB5 hB4
          go_wp2_with fail
          refine (D1.out w6 HT6.out).mono ?_; rintro e w7 ⟨rfl, hT7, hg7⟩
          have hB7 := bgrown hB6 (Nat.le_refl _) hg7 (Nat.le_of_lt HS.out)
          have BX7 := Lib.hid (box_kept BX6.out hg7 (Nat.ne_of_lt HS.out))
          have HC7 := Lib.hid (ci_kept HC6.out hg7 HNE.out)
          have HT7 := Lib.hid hT7
          clear hT7 hg7 b0 b1 b2 BX6 HC6 HT6 D1 hB6
          go_wp2_with fail
          refine (tabRoutes_any g k (l) w7 HM.out.symm HT7.out).mono ?_; rintro e w8 ⟨v8, rfl, hO8, hb8⟩
          obtain ⟨p8, c8, rfl, hCI8, _⟩ := form2 hO8
          have hB8 := bcall hB7 hb8
          have HT8 := Lib.hid (HT7.out.below hb8 HT7.out.lt)
          rw [HM.out]
          have BX8 := Lib.hid (BX7.out.below hb8 BX7.out.1)
          have RS := Lib.hid (routes_any p8 p3 c8 c3 k k l l w8 HM.out.symm HM.out.symm hCI8 (HC7.out.below hb8) true (by simp))
          clear hO8 hCI8 hb8 HT7 BX7 HC7 hB7
          go_wp2_with fail
          refine RS.out.mono ?_; rintro e w9 ⟨rfl, q9, rfl⟩
          have hB9 := below_drewN hB8 q9
          have HT9 : Hid (Tab (w8.drewN q9) g l) := Lib.hid HT8.out
          have BX9 : Hid (BoxR (w8.drewN q9) w.heap.size ⟨ra, rb, rh⟩) := Lib.hid BX8.out
          clear RS HT8 BX8 hB8
          generalize w8.drewN q9 = w10 at HT9 BX9 hB9 ⊢
          obtain ⟨_, b0, b1, b2⟩ := BX9.out
          simp only at b0 b1 b2
          go_wp2_with fail
          refine (D2.out w10 HT9.out).mono ?_; rintro e w11 ⟨rfl, hT11, hg11⟩
          have hB11 := bgrown hB9 (Nat.le_refl _) hg11 (Nat.le_of_lt HS.out)
          have ER := Lib.hid (error_hit 5 5 w11 (HH.out w11 hB11))
          clear hT11 hg11 b0 b1 b2 BX9 HT9 D2 hB9
          go_wp2_with fail
          refine ER.out.mono ?_; rintro e w12 ⟨rfl, hb12⟩
          have hB12 := bcall hB11 hb12
          go_wp2_with fail
          go_ret
          exact ⟨rfl, hB12⟩
      · have hsn := setN_err hs
        rw [er_ne hs, hsn] at SC
        go_wp2_with fail
        refine (SC.out w4 HT4.out).mono ?_; rintro e w5 ⟨rfl, hT5, hg5⟩
        have hB5 := bgrown hB4 (Nat.le_refl _) hg5 (Nat.le_of_lt HS.out)
        have HC5 := Lib.hid (ci_kept HC4.out hg5 HNE.out)
        have HT5 := Lib.hid hT5
        clear hT5 hg5 b0 b1 b2 BX4 HC4 HT4 SC
        go_wp2_with fail
        refine (tabRoutes_any g k (l) w5 HM.out.symm HT5.out).mono ?_; rintro e w6 ⟨v6, rfl, hO6, hb6⟩
        obtain ⟨p6, c6, rfl, hCI6, _⟩ := form2 hO6
        have hB6 := bcall hB5 hb6
        have HT6 := Lib.hid (HT5.out.below hb6 HT5.out.lt)
        rw [HM.out]
        have RS := Lib.hid (routes_any p6 p3 c6 c3 k k l l w6 HM.out.symm HM.out.symm hCI6 (HC5.out.below hb6) true (by simp))
        clear hO6 hCI6 hb6 HT5 HC5 hB5
        go_wp2_with fail
        refine RS.out.mono ?_; rintro e w7 ⟨rfl, q7, rfl⟩
        go_wp2_with fail
        go_ret
        exact ⟨rfl, below_drewN hB6 q7⟩

theorem reads : Tryd.f4.params.toList.all (fun t => Tryd.prog.readableRec t && decide (t < Tryd.prog.types.size)) = true := by kernel_rfl
theorem et : Tryd.prog.globalNamed "errors.errorType" = some 0 := by kernel_rfl
theorem rt : (Tryd.prog.cutTypes.find? (·.1 == "internal/reflectlite.rtype")).map (·.2) = some 86 := by kernel_rfl
theorem oneRow : ((List.range Tryd.prog.types.size).filter fun t => Tryd.prog.rowNamed t [101, 114, 114, 111, 114]) = [29] := by kernel_rfl

theorem handle_of_laid {W : World} (h : laidMetH Tryd.prog Rows.lpmDropRow.laid W) : Handle W := by
  have h' : laidMet Tryd.prog [] W ∧ handlesMet Tryd.prog Rows.lpmDropRow.laid W := h
  obtain ⟨name, u, ty, e1, e2, e3, e4, e5⟩ := h'.2 _ (List.mem_singleton.2 rfl)
  have en : name = [101, 114, 114, 111, 114] := (Option.some.inj e1).symm
  subst en
  obtain rfl := Option.some.inj (rt.symm.trans e2)
  have hm : ty ∈ (List.range Tryd.prog.types.size).filter fun t => Tryd.prog.rowNamed t [101, 114, 114, 111, 114] := List.mem_filter.2 ⟨List.mem_range.2 e3, e4⟩
  rw [oneRow] at hm
  obtain rfl := List.mem_singleton.1 hm
  have hh : typeHandle Tryd.prog 29 = .pointer (some ⟨1, 29, none⟩) := by kernel_rfl
  rw [hh] at e5
  have e6 := World.var?_cell et e5 0
  unfold Handle
  simpa using e6

noncomputable def laidWorld (os : Os) : World :=
  { World.holding Tryd.prog os ⟨#[], #[], []⟩ with heap := (World.holding Tryd.prog os ⟨#[], #[], []⟩).heap.modify 0 fun
      | .cells _ t frozen => .cells #[.iface 86 (.agg #[.pointer (some ⟨1, 29, none⟩)])] t frozen
      | o => o }
theorem laid_met (os : Os) : laidMetH Tryd.prog Rows.lpmDropRow.laid ((laidWorld os).forCall (fun _ _ => 0) ⟨#[], #[.slice none 0 0, .agg #[.int .i64 0, .int .i64 0, .int .i64 0]], []⟩).memory :=
  laidMetH_of_parts (laidMet_nil _ _) (by kernel_rfl)
theorem reads_wit (os : Os) {H : Type} (enc : TypeId × Value → H) : ∃ places, DataW.whole enc Tryd.prog ((laidWorld os).forCall (fun _ _ => 0) ⟨#[], #[.slice none 0 0, .agg #[.int .i64 0, .int .i64 0, .int .i64 0]], []⟩).memory Tryd.f4.params.toList Rows.lpmDropSpec.vars false (#[.slice none 0 0, .agg #[.int .i64 0, .int .i64 0, .int .i64 0]] : Array Value).toList 8 = some ([.nil, .agg [.agg [.lit (.int .i64 0), .lit (.int .i64 0)], .lit (.int .i64 0)]], [], places) :=
  ⟨[], by kernel_rfl⟩

theorem contract (H : Type) (enc : TypeId × Value → H) (W : World) (base : Nat) (args : Array Value) (ds gs : List (DataW H)) (before : List MemPlace)
    (hval : ∀ (j : Nat) t v, Tryd.f4.params[j]? = some t → args[j]? = some v → Value.okWide Tryd.prog W .any base t v)
    (hW : DataW.Whole enc Tryd.prog Tryd.f4.params.toList Rows.lpmDropSpec.vars false W args.toList ds gs before) (hL : laidMetH Tryd.prog Rows.lpmDropRow.laid W) :
    Calls Tryd.prog 4 args W fun e W' => ∃ v, e = .returned v ∧ Rows.lpmDropSpec.post enc Tryd.prog Tryd.f4 false true false false W args v W' := by
  have hW' := hW
  have hg := handle_of_laid hL
  obtain ⟨p, q, hA0, hV, rfl, hfz, hnd⟩ := hW
  have hA : DataW.TrodAll enc Tryd.prog W 0 (fun _ => true) true Tryd.f4.params.toList args.toList ds p := hA0
  have hlt := hA.lt
  rw [Tryd.params4] at hA hval
  obtain ⟨v0, vs0, d0, ds0, p0, q0, hargs, rfl, rfl, h0, r0⟩ := trodAll_cons hA
  obtain ⟨v1, vs1, d1, ds1, p1, q1, hvs1, rfl, rfl, h1, r1⟩ := trodAll_cons r0
  obtain ⟨hvsn, rfl, rfl⟩ := trodAll_nil r1
  simp only [hvsn, hvs1] at hargs
  obtain rfl : args = #[v0, v1] := by cases args; simp_all
  obtain ⟨p0a, cap0, l0, rfl, i0, e0⟩ := open_rows Tryd.underlying22 Tryd.underlying48 Tryd.underlying3 (by kernel_rfl) (by kernel_rfl) (hval 0 22 v0 rfl rfl) h0 (fun x hx => hlt x (by simp [hx]))
  obtain ⟨x1, rfl, f1⟩ := Go.Proofs.YtapaglapngbbpaaDoor.Route.open_route (hval 1 38 v1 rfl rfl) h1
  obtain ⟨rfl, rfl⟩ := trodVars_none hV
  clear hA0
  exact law_post 4 laid reads rfl Tryd.underlying4 rfl hW' ⟨rfl, rfl, rfl⟩ (core _ _ _ l0 x1 W hg rfl i0)

set_option maxRecDepth 100000 in
theorem lifted (os : Os) (started : os.Started) (H : Type) (enc : TypeId × Value → H) (F : Stop.Interp) :
    ReturnsInHanded {} Tryd.checked os 4 .any ((OpenSpec.ofChange Rows.lpmDropSpec).preRow enc Tryd.prog Tryd.f4 Rows.lpmDropRow.domain false Rows.lpmDropRow.laid) (((OpenSpec.ofChange Rows.lpmDropSpec).at F).post enc Tryd.prog Tryd.f4 false true false false) := by
  obtain ⟨places, hx⟩ := reads_wit os enc
  refine returnsInHanded_of_row (C := Tryd.checked) (s := (OpenSpec.ofChange Rows.lpmDropSpec)) own started (by kernel_rfl) Tryd.func4
    (witness_row_at (enc := enc) (C := Tryd.checked) false (laidWorld os) #[.slice none 0 0, .agg #[.int .i64 0, .int .i64 0, .int .i64 0]] rfl (by kernel_rfl) (by kernel_rfl) (by kernel_rfl)
      (OpenSpec.preRow_of_cond 8 hx (by kernel_rfl) (fun k hk => by cases hk) (by kernel_rfl) (laid_met os))) ?_
  intro W base args ds gs before hval hW _ hcond _ hL _ _
  exact contract H enc W base args ds gs before hval hW hL

theorem said : Rows.LpmDropSaid :=
  OpenClaim.holds_of_cond 4 Tryd.f4 rfl rfl rfl rfl rfl rfl rfl ⟨rfl, rfl, rfl, rfl, rfl⟩ rfl rfl rfl rfl rfl (by kernel_rfl) Tryd.func4 (by kernel_rfl)
    (of_decide_eq_true (by kernel_rfl)) (by unfold Func.isWrapper; first | (rw [if_pos (by decide +kernel)]; kernel_rfl) | (rw [if_neg (by decide +kernel)]; exact ⟨rfl, rfl⟩))
    (fun os started H enc _ F => by rw [OpenClaim.pre_eq_preRow]; exact lifted os started H enc F)

theorem plain (f : FuncId) (fn : Func) (hf : Tryd.pinned.checked.prog.funcNamed Rows.lpmDropRow.func = some f) (hfn : Tryd.pinned.checked.prog.funcs[f]? = some fn) :
    true = Tryd.pinned.checked.prog.looks [] ∧ ∀ (j : Nat) t, fn.params[j]? = some t → Tryd.pinned.checked.prog.wantsStandIn t = false := by
  obtain rfl : f = 4 := Option.some.inj ((show Tryd.prog.funcNamed Rows.lpmDropRow.func = some 4 by kernel_rfl).symm.trans hf) |>.symm
  obtain rfl : fn = Tryd.f4 := (Option.some.inj (Tryd.func4.symm.trans hfn)).symm
  refine ⟨by kernel_rfl, fun j t ht => ?_⟩
  have hall : Tryd.f4.params.toList.all (fun t => !Tryd.prog.wantsStandIn t) = true := by kernel_rfl
  have hm : t ∈ Tryd.f4.params.toList := by simpa using Array.mem_of_getElem? ht
  have := List.all_eq_true.1 hall t hm
  show Tryd.prog.wantsStandIn t = false
  simpa using this

theorem proved : Rows.LpmDropCardSaid :=
  Claim7.holds_tied_plain_at .later [] _ _ _ _ said (fun _ h => by cases h) (by kernel_rfl) (fun _ h => by cases h) lpmDrop_row_tie rfl ⟨rfl, rfl⟩ (by kernel_rfl) rfl plain (by kernel_rfl)
end Go.Proofs.YtapaglapngbbpaaDoor.LpmDropL
