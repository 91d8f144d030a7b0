/- NatBack: the port that a place is lent leads to it, and stays its own till it is dropped: for every input, the row's handle laid as the card says. -/
import Derived.Test.YtlojehakifagbaaDoorCards
import Derived.Test.YtlojehakifagbaaDoorTie
import Derived.Deep.DeepHandedRow
import Derived.Lib.LaidTab
import Derived.LaidHandle
import Derived.SevenTiedAt
import Derived.Test.YtlojehakifagbaaDoorNatFact
import Derived.Test.YtlojehakifagbaaDoorNatMore
import Derived.Test.YtlojehakifagbaaDoorNatLent
import Derived.BigQuiet
import Derived.Deep.RegionHeld3
import Derived.Deep.RegionWith
import Derived.OrdersHeld
namespace Go.Proofs.YtlojehakifagbaaDoor.NatBackL
open Go.ChangeShapes Go.WideShapes Go.ChangeAt Go.RowKit Go.Proofs.YtlojehakifagbaaDoor.Kit Go.Proofs.YtlojehakifagbaaDoor.App Go.Proofs.YtlojehakifagbaaDoor.Cells Go.Proofs.YtlojehakifagbaaDoor.Err Go.Proofs.YtlojehakifagbaaDoor.MapG Go.Proofs.YtlojehakifagbaaDoor.As Go.Proofs.YtlojehakifagbaaDoor.Nat_
set_option linter.unusedVariables false
set_option maxRecDepth 20000
set_option maxHeartbeats 4000000
abbrev Law (low many : Int) (p : Option Addr) (m cap : Nat) (a c : Int) (q : Option Addr) (m2 cap2 : Nat) (w : World) : Prop := Calls Tryd.prog 3 #[.int .i64 low, .int .i64 many, .slice p m cap, .agg #[.int .i64 a, .int .i64 c], .slice q m2 cap2] w fun e w' => e = .returned (.bool true) ∧ Below w.heap.size w w'
theorem law_bad (p : Option Addr) (m cap : Nat) (a c : Int) (q : Option Addr) (m2 cap2 : Nat) (low many : Int) (w : World) (hg : Handle w) (h : ¬ okN low many) (hb : -9223372036854775808 ≤ many ∧ many ≤ 9223372036854775807) : Law low many p m cap a c q m2 cap2 w := by
  have NB := Lib.hid (fun W => new_bad low many W h)
  rw [er_1] at NB
  by_cases h1 : num low
  · have I1 := Lib.hid (fun W => Ring.in_any low 0 65535 W true (in_true h1))
    by_cases h2 : 1 ≤ many ∧ many ≤ 30
    · have I2 := Lib.hid (fun W => Ring.in_any many 1 30 W true (in_true h2))
      have u1 : IntKind.i64.wrap (65536 - many) = 65536 - many := wrap_in (by omega)
      have u2 : decide (low > 65536 - many) = true := decide_eq_true (by have h3 : ¬ low ≤ 65536 - many := fun h3 => h ⟨h1, h2.1, h2.2, h3⟩; omega)
      have u3 : decide (65536 - many < low) = true := u2
      clear h h1 h2
      have FA := Lib.hid (fun W (hW : Below w.heap.size w W) => fact_any W (hg.below hW))
      have HBX := Lib.hid (Box.new w ⟨a, c⟩ 24)
      have HB0 := Lib.hid (balloc (brefl w) (.cells #[.int .i64 a, .int .i64 c] 24))
      unfold Law
      go_enter Tryd.func3, Tryd.ntmps3
      go_wp2_with fail
      refine (FA.out _ HB0.out).mono ?_; rintro e w1 ⟨rfl, hb1⟩
      have HB1 := Lib.hid (bcall HB0.out hb1)
      have HBX := Lib.hid (HBX.out.below hb1 HBX.out.1)
      clear FA hb1 HB0
      go_wp2_with fail
      refine (NB.out _).mono ?_; rintro e w2 ⟨rfl, rfl⟩
      go_wp2_with fail
      refine (I1.out _).mono ?_; rintro e w3 ⟨rfl, rfl⟩
      go_wp2_with fail
      refine (I2.out _).mono ?_; rintro e w3 ⟨rfl, rfl⟩
      go_wp2_with fail
      go_ret
      exact ⟨by first | rfl | simp, HB1.out⟩
    · have I2 := Lib.hid (fun W => Ring.in_any many 1 30 W false (in_false h2))
      clear h h1 h2
      have FA := Lib.hid (fun W (hW : Below w.heap.size w W) => fact_any W (hg.below hW))
      have HBX := Lib.hid (Box.new w ⟨a, c⟩ 24)
      have HB0 := Lib.hid (balloc (brefl w) (.cells #[.int .i64 a, .int .i64 c] 24))
      unfold Law
      go_enter Tryd.func3, Tryd.ntmps3
      go_wp2_with fail
      refine (FA.out _ HB0.out).mono ?_; rintro e w1 ⟨rfl, hb1⟩
      have HB1 := Lib.hid (bcall HB0.out hb1)
      have HBX := Lib.hid (HBX.out.below hb1 HBX.out.1)
      clear FA hb1 HB0
      go_wp2_with fail
      refine (NB.out _).mono ?_; rintro e w2 ⟨rfl, rfl⟩
      go_wp2_with fail
      refine (I1.out _).mono ?_; rintro e w3 ⟨rfl, rfl⟩
      go_wp2_with fail
      refine (I2.out _).mono ?_; rintro e w3 ⟨rfl, rfl⟩
      go_wp2_with fail
      go_ret
      exact ⟨by first | rfl | simp, HB1.out⟩
  · have I1 := Lib.hid (fun W => Ring.in_any low 0 65535 W false (in_false h1))
    clear h h1
    have FA := Lib.hid (fun W (hW : Below w.heap.size w W) => fact_any W (hg.below hW))
    have HBX := Lib.hid (Box.new w ⟨a, c⟩ 24)
    have HB0 := Lib.hid (balloc (brefl w) (.cells #[.int .i64 a, .int .i64 c] 24))
    unfold Law
    go_enter Tryd.func3, Tryd.ntmps3
    go_wp2_with fail
    refine (FA.out _ HB0.out).mono ?_; rintro e w1 ⟨rfl, hb1⟩
    have HB1 := Lib.hid (bcall HB0.out hb1)
    have HBX := Lib.hid (HBX.out.below hb1 HBX.out.1)
    clear FA hb1 HB0
    go_wp2_with fail
    refine (NB.out _).mono ?_; rintro e w2 ⟨rfl, rfl⟩
    go_wp2_with (go_at_call 9; refine (I1.out _).mono ?_; rintro e w3 ⟨rfl, rfl⟩)
    go_ret
    exact ⟨rfl, HB1.out⟩

theorem law_good (low many : Nat) (p : Option Addr) (m cap : Nat) (ls : List (List Int)) (a c : Int) (q : Option Addr) (m2 cap2 : Nat) (ms : List (List Int)) (w : World) (hg : Handle w) (hm1 : 1 ≤ many) (hm2 : many ≤ 30) (hm3 : low + many ≤ 65536) (hm : m = ls.length) (hi : RowsI w p cap ls) (hn : m2 = ms.length) (hj : RowsI w q cap2 ms) : Law low many p m cap a c q m2 cap2 w := by
  have hlen2 := hj.len_le
  rw [← hn] at hlen2
  have HR := Lib.hid (Drr.rows_both hj)
  have HN := Lib.hid hn
  have HM := Lib.hid hm
  have HI := Lib.hid hi
  have hgd : Tryd.prog.eqGuardType Tryd.prog.depth 24 = false := by kernel_rfl
  have hmix : Tryd.prog.follows .mixedOrders = true := by kernel_rfl
  have E : ∀ W, (Op.equalIn 10000 24 (.agg #[.int .i64 a, .int .i64 c]) (.agg #[.int .i64 a, .int .i64 c])).run Tryd.prog W = .ok true W := fun W => by rw [eqX]; simp
  clear hi hm hj hn
  have NG := Lib.hid (fun W => new_good low many W hm1 hm2 hm3)
  have FA := Lib.hid (fun W (hW : Below w.heap.size w W) => fact_any W (hg.below hW))
  have HBX := Lib.hid (Box.new w ⟨a, c⟩ 24)
  have HB0 := Lib.hid (balloc (brefl w) (.cells #[.int .i64 a, .int .i64 c] 24))
  unfold Law
  go_enter Tryd.func3, Tryd.ntmps3
  go_wp2_with fail
  refine (FA.out _ HB0.out).mono ?_; rintro e w1 ⟨rfl, hb1⟩
  have HB1 := Lib.hid (bcall HB0.out hb1)
  have HBX := Lib.hid (HBX.out.below hb1 HBX.out.1)
  clear FA hb1 HB0
  go_wp2_with fail
  refine (NG.out _).mono ?_; rintro e w2 ⟨b, rfl, ht2, hb2⟩
  have HB2 := Lib.hid (bcall HB1.out hb2)
  have HT := Lib.hid ht2
  have hbx : (fun k => k < w1.heap.size) w.heap.size := HBX.out.1
  have HXB := Lib.hid hbx
  have HBX := Lib.hid (HBX.out.below hb2 HBX.out.1)
  have HXX := Lib.hid (fun k (hk : k < w.heap.size) => (show (fun k => k < w1.heap.size) k from Nat.lt_of_lt_of_le hk HB1.out.size))
  generalize hX : (fun k => k < w1.heap.size) = X at HT HXX HXB
  clear hb2 ht2 NG HB1 hX hbx
  go_wp2_with fail
  refine (did_any X b 0 low many (fun _ => none) p cap m ls w w2 HM.out HI.out HB2.out HXX.out HT.out (by omega)).mono ?_; rintro e w3 ⟨rfl, h3, ht3, hk3⟩
  have HB3 := Lib.hid (HB2.out.trans (hk3.below HXX.out))
  have HBX := Lib.hid (HBX.out.keep hk3 HXB.out)
  have HT := Lib.hid ht3
  clear hk3 ht3 HB2
  have c4 := HBX.out.2.1
  have c5 := HBX.out.2.2
  go_wp2_with fail
  refine (out_any X b (0 + 60) low many h3 ⟨a, c⟩ w3 HT.out (by omega)).mono ?_; rintro e w4 ⟨port, cc, h4, rfl, hR, ht4, hk4⟩
  have HB4 := Lib.hid (HB3.out.trans (hk4.below HXX.out))
  have HBX := Lib.hid (HBX.out.keep hk4 HXB.out)
  have hcs := hR.cases
  have HT4 := Lib.hid ht4
  clear hk4 ht4 HB3 HT hR c4 c5
  rcases hcs with ⟨rfl, hport⟩ | ⟨rfl, hcc⟩
  · rw [er_0]
    have HP := Lib.hid hport
    have hrng := HT4.out.tb.rng port _ hport
    clear hport
    go_wp2_with fail
    go_loopw [15] (fun iv wr => ∃ (k : Nat) (l : Int → Option Plc), k ≤ m2 ∧ k ≤ 60 ∧ iv = .int .i64 (k : Int) ∧ Hid (Tab X wr b (61 + k) low many l) ∧ Hid (Keep X w4 wr) ∧ Hid (l port = some ⟨a, c⟩)) (fun i _ => 60 - vN i)
    case atStart => exact ⟨0, h4, Nat.zero_le _, Nat.zero_le _, rfl, HT4, Lib.hid (Keep.refl X w4), HP⟩
    case round =>
      obtain ⟨k, l, hkn, hk60, rfl, HS, HK, HL⟩ := hrel
      clear HT4 HP
      have HB := Lib.hid (HB4.out.trans (HK.out.below HXX.out))
      by_cases h1 : k < m2
      · have u1 : decide ((k : Int) < (m2 : Int)) = true := decide_eq_true (by omega)
        by_cases h2 : k < 60
        · have u2 : decide ((k : Int) < 60) = true := decide_eq_true (by omega)
          obtain ⟨b1, off, rfl, hr⟩ := HR.out (by rw [← HN.out]; omega)
          obtain ⟨q, c1, hlen3, hc⟩ := hr k (by rw [← HN.out]; exact h1)
          clear hr
          generalize Drr.row ms k = x at hlen3 hc
          have HC := Lib.hid hc
          have hq := (HC.out wr HB.out).1
          have hI := Lib.hid (hc w (brefl w)).2
          clear hc
          by_cases h3 : x.length = 2
          · obtain ⟨b2, o2, rfl, hcs⟩ := Drr.ints_both hI.out (by omega)
            have g0 : wr.cell? ⟨b2, o2, none⟩ = some (.int .i64 (x[0]?.getD 0)) := hcs wr HB.out 0 (by omega)
            have g1 : wr.cell? ⟨b2, o2 + 1, none⟩ = some (.int .i64 (x[1]?.getD 0)) := hcs wr HB.out 1 (by omega)
            generalize x[0]?.getD 0 = x0 at g0
            generalize x[1]?.getD 0 = x1 at g1
            have HQ2 := Lib.hid (fun W hW => (HC.out W hW).1)
            rw [h3] at hq HQ2
            clear hcs hI HC h3 hlen3
            have C := Lib.hid (out_any X b (61 + k) low many l ⟨x0, x1⟩ wr.drew (show Tab X wr.drew b (61 + k) low many l from HS.out.below ⟨rfl, rfl, rfl, Nat.le_refl _, fun _ _ => rfl⟩) (by omega))
            go_wp2_with fail
            go_still_tail 14, (by kernel_rfl)
            change wpList _ _ _ _ _ wr.drew
            go_wp2_with fail
            refine C.out.mono ?_; rintro e w5 ⟨port5, cc5, l5, rfl, hR5, hs5, hk5⟩
            have HS5 := Lib.hid (hs5.mono (n' := 61 + (k + 1)) (by omega))
            have HK5 := Lib.hid (HK.out.trans (show Keep X wr w5 from ⟨hk5.os, hk5.tape, hk5.output, hk5.size, hk5.block⟩))
            have HL5 := Lib.hid (hR5.keeps HL.out)
            have hq2 := HQ2.out w5 (HB4.out.trans (HK5.out.below HXX.out))
            generalize er cc5 = ve
            clear C hs5 hk5 HS HB HK HL HQ2 g0 g1 hq hR5
            go_wp2_with fail
            go_roundw
            case rel => exact ⟨k + 1, l5, by omega, by omega, by first | rfl | go_num, HS5, HK5, HL5⟩
            case measure => simp [vN]; omega
          · by_cases h4 : x.length = 1
            · obtain ⟨b2, o2, rfl, hcs⟩ := Drr.ints_both hI.out (by omega)
              have g0 : wr.cell? ⟨b2, o2, none⟩ = some (.int .i64 (x[0]?.getD 0)) := hcs wr HB.out 0 (by omega)
              have hw0 := hI.out.2.2.1 0
              generalize x[0]?.getD 0 = x0 at g0 hw0
              rw [h4] at hq
              clear hcs hI HC h3 h4 hlen3
              by_cases h5 : x0 = port
              · have u5 : (x0 != port) = false := by rw [bne_eq_false_iff_eq]; exact h5
                have HS5 := Lib.hid (HS.out.mono (n' := 61 + (k + 1)) (by omega))
                clear h5 hw0
                go_wp2_with fail
                go_roundw
                case rel => exact ⟨k + 1, l, by omega, by omega, by first | rfl | go_num, HS5, HK, HL⟩
                case measure => simp [vN]; omega
              · have u5 : (x0 != port) = true := by rw [bne_iff_ne]; exact h5
                have C := Lib.hid (drop_any X b (61 + k) low many l x0 wr HS.out hw0)
                have HL5 := Lib.hid (show upd l x0 none port = some ⟨a, c⟩ by rw [upd_other _ _ (fun e => h5 e.symm)]; exact HL.out)
                generalize er (noneC l x0) = ve at C
                clear h5 hw0
                go_wp2_with fail
                refine C.out.mono ?_; rintro e w5 ⟨rfl, hs5, hk5⟩
                have HS5 := Lib.hid (hs5.mono (n' := 61 + (k + 1)) (by omega))
                have HK5 := Lib.hid (HK.out.trans hk5)
                clear C hs5 hk5 HS HB HK HL g0 hq
                go_wp2_with fail
                go_roundw
                case rel => exact ⟨k + 1, _, by omega, by omega, by first | rfl | go_num, HS5, HK5, HL5⟩
                case measure => simp [vN]; omega
            · obtain ⟨y, hy⟩ : ∃ y, x.length = y := ⟨_, rfl⟩
              rw [hy] at hq hlen3 h3 h4
              have u3 : ((y : Int) == 2) = false := by rw [beq_eq_false_iff_ne]; omega
              have u4 : ((y : Int) == 1) = false := by rw [beq_eq_false_iff_ne]; omega
              have HS5 := Lib.hid (HS.out.mono (n' := 61 + (k + 1)) (by omega))
              clear hy h3 h4 HC hI
              go_wp2_with fail
              go_roundw
              case rel => exact ⟨k + 1, l, by omega, by omega, by first | rfl | go_num, HS5, HK, HL⟩
              case measure => simp [vN]; omega
        · have u2 : decide ((k : Int) < 60) = false := decide_eq_false (by omega)
          have HBX := Lib.hid (HBX.out.keep HK.out HXB.out)
          have c4 := HBX.out.2.1
          have c5 := HBX.out.2.2
          go_wp2_with fail
          refine (out_any X b (61 + k) low many l ⟨a, c⟩ wr HS.out (by omega)).mono ?_; rintro e w5 ⟨port5, cc5, l5, rfl, hR5, hs5, hk5⟩
          obtain ⟨rfl, rfl, rfl⟩ := hR5.has HS.out.tb HL.out
          rw [er_0]
          have HB5 := Lib.hid (HB.out.trans (hk5.below HXX.out))
          have HBX := Lib.hid (HBX.out.keep hk5 HXB.out)
          have HS5 := Lib.hid hs5
          have CI := Lib.hid (in_any X b (61 + k + 1) low many l5 port5 w5 hs5 (wf_in (by omega)))
          have e1 : atOf l5 port5 = ⟨a, c⟩ := by unfold atOf; rw [HL.out]; rfl
          have e2 : noneC l5 port5 = 0 := by unfold noneC; rw [HL.out]; rfl
          rw [e1, e2, er_0] at CI
          clear c4 c5 hR5 hs5 hk5 HS HK HB e1 e2 HL
          go_wp2_with fail
          refine CI.out.mono ?_; rintro e w6 ⟨rfl, hb6⟩
          have hbxA := Box.new w6 ⟨a, c⟩ 24
          have hbxB := (HBX.out.below hb6 HBX.out.1).alloc (.cells #[.int .i64 a, .int .i64 c] 24)
          have d0 := hbxA.2.1
          have d1 := hbxA.2.2
          have d2 := hbxB.2.1
          have d3 := hbxB.2.2
          have HB6 := Lib.hid (balloc (bcall HB5.out hb6) (.cells #[.int .i64 a, .int .i64 c] 24))
          have v1 : decide ((low : Int) ≤ port5) = true := decide_eq_true hrng.1
          have v2 : decide (port5 ≥ (low : Int)) = true := v1
          have v3 : IntKind.i64.wrap (port5 - (low : Int)) = port5 - (low : Int) := wrap_in (by omega)
          have v4 : decide (port5 - (low : Int) < (many : Int)) = true := decide_eq_true (by omega)
          clear hb6 hbxA hbxB CI
          go_wp2_with fail
          go_ret
          exact ⟨by first | rfl | simp, HB6.out⟩
      · have u1 : decide ((k : Int) < (m2 : Int)) = false := decide_eq_false (by omega)
        have HBX := Lib.hid (HBX.out.keep HK.out HXB.out)
        have c4 := HBX.out.2.1
        have c5 := HBX.out.2.2
        go_wp2_with fail
        refine (out_any X b (61 + k) low many l ⟨a, c⟩ wr HS.out (by omega)).mono ?_; rintro e w5 ⟨port5, cc5, l5, rfl, hR5, hs5, hk5⟩
        obtain ⟨rfl, rfl, rfl⟩ := hR5.has HS.out.tb HL.out
        rw [er_0]
        have HB5 := Lib.hid (HB.out.trans (hk5.below HXX.out))
        have HBX := Lib.hid (HBX.out.keep hk5 HXB.out)
        have HS5 := Lib.hid hs5
        have CI := Lib.hid (in_any X b (61 + k + 1) low many l5 port5 w5 hs5 (wf_in (by omega)))
        have e1 : atOf l5 port5 = ⟨a, c⟩ := by unfold atOf; rw [HL.out]; rfl
        have e2 : noneC l5 port5 = 0 := by unfold noneC; rw [HL.out]; rfl
        rw [e1, e2, er_0] at CI
        clear c4 c5 hR5 hs5 hk5 HS HK HB e1 e2 HL
        go_wp2_with fail
        refine CI.out.mono ?_; rintro e w6 ⟨rfl, hb6⟩
        have hbxA := Box.new w6 ⟨a, c⟩ 24
        have hbxB := (HBX.out.below hb6 HBX.out.1).alloc (.cells #[.int .i64 a, .int .i64 c] 24)
        have d0 := hbxA.2.1
        have d1 := hbxA.2.2
        have d2 := hbxB.2.1
        have d3 := hbxB.2.2
        have HB6 := Lib.hid (balloc (bcall HB5.out hb6) (.cells #[.int .i64 a, .int .i64 c] 24))
        have v1 : decide ((low : Int) ≤ port5) = true := decide_eq_true hrng.1
        have v2 : decide (port5 ≥ (low : Int)) = true := v1
        have v3 : IntKind.i64.wrap (port5 - (low : Int)) = port5 - (low : Int) := wrap_in (by omega)
        have v4 : decide (port5 - (low : Int) < (many : Int)) = true := decide_eq_true (by omega)
        clear hb6 hbxA hbxB CI
        go_wp2_with fail
        go_ret
        exact ⟨by first | rfl | simp, HB6.out⟩
  · rw [show er cc = .iface 55 (.int .i64 cc) from hcc]
    go_wp2_with fail
    go_ret
    exact ⟨rfl, HB4.out⟩

theorem reads : Tryd.f3.params.toList.all (fun t => Tryd.prog.readableRec t && decide (t < Tryd.prog.types.size)) = true := by kernel_rfl
theorem et : Tryd.prog.globalNamed "errors.errorType" = some 0 := by kernel_rfl
theorem rt : (Tryd.prog.cutTypes.find? (·.1 == "internal/reflectlite.rtype")).map (·.2) = some 102 := by kernel_rfl
theorem oneRow : ((List.range Tryd.prog.types.size).filter fun t => Tryd.prog.rowNamed t [101, 114, 114, 111, 114]) = [28] := by kernel_rfl

theorem handle_of_laid {W : World} (h : laidMetH Tryd.prog Rows.natBackRow.laid W) : Handle W := by
  have h' : laidMet Tryd.prog [] W ∧ handlesMet Tryd.prog Rows.natBackRow.laid W := h
  obtain ⟨name, u, ty, e1, e2, e3, e4, e5⟩ := h'.2 _ (List.mem_singleton.2 rfl)
  have en : name = [101, 114, 114, 111, 114] := (Option.some.inj e1).symm
  subst en
  obtain rfl := Option.some.inj (rt.symm.trans e2)
  have hm : ty ∈ (List.range Tryd.prog.types.size).filter fun t => Tryd.prog.rowNamed t [101, 114, 114, 111, 114] := List.mem_filter.2 ⟨List.mem_range.2 e3, e4⟩
  rw [oneRow] at hm
  obtain rfl := List.mem_singleton.1 hm
  have hh : typeHandle Tryd.prog 28 = .pointer (some ⟨1, 28, none⟩) := by kernel_rfl
  rw [hh] at e5
  have e6 := World.var?_cell et e5 0
  unfold Handle
  simpa using e6

noncomputable def laidWorld (os : Os) : World :=
  { World.holding Tryd.prog os ⟨#[], #[], []⟩ with heap := (World.holding Tryd.prog os ⟨#[], #[], []⟩).heap.modify 0 fun
      | .cells _ t frozen => .cells #[.iface 102 (.agg #[.pointer (some ⟨1, 28, none⟩)])] t frozen
      | o => o }
theorem laid_met (os : Os) : laidMetH Tryd.prog Rows.natBackRow.laid ((laidWorld os).forCall (fun _ _ => 0) ⟨#[], #[.int .i64 0, .int .i64 0, .slice none 0 0, .agg #[.int .i64 0, .int .i64 0], .slice none 0 0], []⟩).memory :=
  laidMetH_of_parts (laidMet_nil _ _) (by kernel_rfl)
theorem reads_wit (os : Os) {H : Type} (enc : TypeId × Value → H) : ∃ places, DataW.whole enc Tryd.prog ((laidWorld os).forCall (fun _ _ => 0) ⟨#[], #[.int .i64 0, .int .i64 0, .slice none 0 0, .agg #[.int .i64 0, .int .i64 0], .slice none 0 0], []⟩).memory Tryd.f3.params.toList Rows.natBackSpec.vars false (#[.int .i64 0, .int .i64 0, .slice none 0 0, .agg #[.int .i64 0, .int .i64 0], .slice none 0 0] : Array Value).toList 8 = some ([.lit (.int .i64 0), .lit (.int .i64 0), .nil, .agg [.lit (.int .i64 0), .lit (.int .i64 0)], .nil], [], places) :=
  ⟨[], by kernel_rfl⟩

theorem contract (H : Type) (enc : TypeId × Value → H) (W : World) (base : Nat) (args : Array Value) (ds gs : List (DataW H)) (before : List MemPlace)
    (hval : ∀ (j : Nat) t v, Tryd.f3.params[j]? = some t → args[j]? = some v → Value.okWide Tryd.prog W .any base t v)
    (hW : DataW.Whole enc Tryd.prog Tryd.f3.params.toList Rows.natBackSpec.vars false W args.toList ds gs before) (hL : laidMetH Tryd.prog Rows.natBackRow.laid W) :
    Calls Tryd.prog 3 args W fun e W' => ∃ v, e = .returned v ∧ Rows.natBackSpec.post enc Tryd.prog Tryd.f3 false true false false W args v W' := by
  have hW' := hW
  have hg := handle_of_laid hL
  obtain ⟨p, q, hA0, hV, rfl, hfz, hnd⟩ := hW
  have hA : DataW.TrodAll enc Tryd.prog W 0 (fun _ => true) true Tryd.f3.params.toList args.toList ds p := hA0
  have hlt := hA.lt
  rw [Tryd.params3] at hA hval
  obtain ⟨v0, vs0, d0, ds0, p0, q0, hargs, rfl, rfl, h0, r0⟩ := trodAll_cons hA
  obtain ⟨v1, vs1, d1, ds1, p1, q1, hvs1, rfl, rfl, h1, r1⟩ := trodAll_cons r0
  obtain ⟨v2, vs2, d2, ds2, p2, q2, hvs2, rfl, rfl, h2, r2⟩ := trodAll_cons r1
  obtain ⟨v3, vs3, d3, ds3, p3, q3, hvs3, rfl, rfl, h3, r3⟩ := trodAll_cons r2
  obtain ⟨v4, vs4, d4, ds4, p4, q4, hvs4, rfl, rfl, h4, r4⟩ := trodAll_cons r3
  obtain ⟨hvsn, rfl, rfl⟩ := trodAll_nil r4
  simp only [hvsn, hvs4, hvs3, hvs2, hvs1] at hargs
  obtain rfl : args = #[v0, v1, v2, v3, v4] := by cases args; simp_all
  obtain ⟨a0, rfl, rfl, rfl, w0⟩ := open_int Tryd.underlying3 (hval 0 3 v0 rfl rfl) h0
  have b0 := bounds_int w0
  obtain ⟨a1, rfl, rfl, rfl, w1⟩ := open_int Tryd.underlying3 (hval 1 3 v1 rfl rfl) h1
  have b1 := bounds_int w1
  obtain ⟨p2a, cap2, l2, rfl, i2, e2⟩ := open_rows Tryd.underlying22 Tryd.underlying35 Tryd.underlying3 (by kernel_rfl) (by kernel_rfl) (hval 2 22 v2 rfl rfl) h2 (fun x hx => hlt x (by simp [hx]))
  obtain ⟨x3, rfl, f3⟩ := Go.Proofs.YtlojehakifagbaaDoor.Nat_.open_place (hval 3 24 v3 rfl rfl) h3
  obtain ⟨p4a, cap4, l4, rfl, i4, e4⟩ := open_rows Tryd.underlying22 Tryd.underlying35 Tryd.underlying3 (by kernel_rfl) (by kernel_rfl) (hval 4 22 v4 rfl rfl) h4 (fun x hx => hlt x (by simp [hx]))
  obtain ⟨rfl, rfl⟩ := trodVars_none hV
  clear hA0
  exact law_post 4 laid reads rfl Tryd.underlying4 rfl hW' ⟨rfl, rfl, rfl⟩ (by
    by_cases h : okN a0 a1
    · obtain ⟨low, rfl⟩ : ∃ n : Nat, a0 = n := ⟨a0.toNat, by have := h.1.1; omega⟩
      obtain ⟨many, rfl⟩ : ∃ n : Nat, a1 = n := ⟨a1.toNat, by have := h.2.1; omega⟩
      exact law_good low many _ _ _ l2 x3.adr x3.prt _ _ _ l4 W hg (by have := h.2.1; omega) (by have := h.2.2.1; omega) (by have := h.2.2.2; omega) rfl i2 rfl i4
    · exact law_bad _ _ _ x3.adr x3.prt _ _ _ a0 a1 W hg h b1)

set_option maxRecDepth 100000 in
theorem lifted (os : Os) (started : os.Started) (H : Type) (enc : TypeId × Value → H) (F : Stop.Interp) :
    ReturnsInHanded {} Tryd.checked os 3 .any ((OpenSpec.ofChange Rows.natBackSpec).preRow enc Tryd.prog Tryd.f3 Rows.natBackRow.domain false Rows.natBackRow.laid) (((OpenSpec.ofChange Rows.natBackSpec).at F).post enc Tryd.prog Tryd.f3 false true false false) := by
  obtain ⟨places, hx⟩ := reads_wit os enc
  refine returnsInHanded_of_row (C := Tryd.checked) (s := (OpenSpec.ofChange Rows.natBackSpec)) own started (by kernel_rfl) Tryd.func3
    (witness_row_at (enc := enc) (C := Tryd.checked) false (laidWorld os) #[.int .i64 0, .int .i64 0, .slice none 0 0, .agg #[.int .i64 0, .int .i64 0], .slice none 0 0] rfl (by kernel_rfl) (by kernel_rfl) (by kernel_rfl)
      (OpenSpec.preRow_of_cond 8 hx (by kernel_rfl) (fun k hk => by cases hk) (by kernel_rfl) (laid_met os))) ?_
  intro W base args ds gs before hval hW _ hcond _ hL _ _
  exact contract H enc W base args ds gs before hval hW hL

theorem said : Rows.NatBackSaid :=
  OpenClaim.holds_of_cond 3 Tryd.f3 rfl rfl rfl rfl rfl rfl rfl ⟨rfl, rfl, rfl, rfl, rfl⟩ rfl rfl rfl rfl rfl (by kernel_rfl) Tryd.func3 (by kernel_rfl)
    (of_decide_eq_true (by kernel_rfl)) (by unfold Func.isWrapper; first | (rw [if_pos (by decide +kernel)]; kernel_rfl) | (rw [if_neg (by decide +kernel)]; exact ⟨rfl, rfl⟩))
    (fun os started H enc _ F => by rw [OpenClaim.pre_eq_preRow]; exact lifted os started H enc F)

theorem plain (f : FuncId) (fn : Func) (hf : Tryd.pinned.checked.prog.funcNamed Rows.natBackRow.func = some f) (hfn : Tryd.pinned.checked.prog.funcs[f]? = some fn) :
    true = Tryd.pinned.checked.prog.looks [] ∧ ∀ (j : Nat) t, fn.params[j]? = some t → Tryd.pinned.checked.prog.wantsStandIn t = false := by
  obtain rfl : f = 3 := Option.some.inj ((show Tryd.prog.funcNamed Rows.natBackRow.func = some 3 by kernel_rfl).symm.trans hf) |>.symm
  obtain rfl : fn = Tryd.f3 := (Option.some.inj (Tryd.func3.symm.trans hfn)).symm
  refine ⟨by kernel_rfl, fun j t ht => ?_⟩
  have hall : Tryd.f3.params.toList.all (fun t => !Tryd.prog.wantsStandIn t) = true := by kernel_rfl
  have hm : t ∈ Tryd.f3.params.toList := by simpa using Array.mem_of_getElem? ht
  have := List.all_eq_true.1 hall t hm
  show Tryd.prog.wantsStandIn t = false
  simpa using this

theorem proved : Rows.NatBackCardSaid :=
  Claim7.holds_tied_plain_at .later [] _ _ _ _ said (fun _ h => by cases h) (by kernel_rfl) (fun _ h => by cases h) natBack_row_tie rfl ⟨rfl, rfl⟩ (by kernel_rfl) rfl plain (by kernel_rfl)
end Go.Proofs.YtlojehakifagbaaDoor.NatBackL
