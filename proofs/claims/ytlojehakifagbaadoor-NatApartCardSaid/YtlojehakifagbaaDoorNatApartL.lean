/- NatApart: no two places have one port, and no more ports are lent than there are: for every input, the row's handle laid as the card says. -/
import Derived.Test.YtlojehakifagbaaDoorCards
import Derived.Test.YtlojehakifagbaaDoorTie
import Derived.Deep.DeepHandedRow
import Derived.Lib.LaidTab
import Derived.LaidHandle
import Derived.SevenTiedAt
import Derived.Test.YtlojehakifagbaaDoorNatFact
import Derived.Test.YtlojehakifagbaaDoorNatMore
import Derived.Test.YtlojehakifagbaaDoorNatLent
import Derived.BigQuiet
import Derived.Deep.RegionHeld3
import Derived.Deep.RegionWith
import Derived.OrdersHeld
namespace Go.Proofs.YtlojehakifagbaaDoor.NatApartL
open Go.ChangeShapes Go.WideShapes Go.ChangeAt Go.RowKit Go.Proofs.YtlojehakifagbaaDoor.Kit Go.Proofs.YtlojehakifagbaaDoor.App Go.Proofs.YtlojehakifagbaaDoor.Cells Go.Proofs.YtlojehakifagbaaDoor.Err Go.Proofs.YtlojehakifagbaaDoor.MapG Go.Proofs.YtlojehakifagbaaDoor.As Go.Proofs.YtlojehakifagbaaDoor.Nat_
set_option linter.unusedVariables false
set_option maxRecDepth 20000
set_option maxHeartbeats 4000000
abbrev Law (low many : Int) (p : Option Addr) (m cap : Nat) (a c a2 c2 : Int) (w : World) : Prop := Calls Tryd.prog 4 #[.int .i64 low, .int .i64 many, .slice p m cap, .agg #[.int .i64 a, .int .i64 c], .agg #[.int .i64 a2, .int .i64 c2]] w fun e w' => e = .returned (.bool true) ∧ Below w.heap.size w w'
theorem law_bad (p : Option Addr) (m cap : Nat) (a c a2 c2 : Int) (low many : Int) (w : World) (hg : Handle w) (h : ¬ okN low many) (hb : -9223372036854775808 ≤ many ∧ many ≤ 9223372036854775807) : Law low many p m cap a c a2 c2 w := by
  have NB := Lib.hid (fun W => new_bad low many W h)
  rw [er_1] at NB
  by_cases h1 : num low
  · have I1 := Lib.hid (fun W => Ring.in_any low 0 65535 W true (in_true h1))
    by_cases h2 : 1 ≤ many ∧ many ≤ 30
    · have I2 := Lib.hid (fun W => Ring.in_any many 1 30 W true (in_true h2))
      have u1 : IntKind.i64.wrap (65536 - many) = 65536 - many := wrap_in (by omega)
      have u2 : decide (low > 65536 - many) = true := decide_eq_true (by have h3 : ¬ low ≤ 65536 - many := fun h3 => h ⟨h1, h2.1, h2.2, h3⟩; omega)
      have u3 : decide (65536 - many < low) = true := u2
      clear h h1 h2
      have FA := Lib.hid (fun W (hW : Below w.heap.size w W) => fact_any W (hg.below hW))
      have HBX := Lib.hid (Box.new w ⟨a, c⟩ 24)
      have HB0 := Lib.hid (balloc (brefl w) (.cells #[.int .i64 a, .int .i64 c] 24))
      have HBX := Lib.hid (HBX.out.alloc (.cells #[.int .i64 a2, .int .i64 c2] 24))
      have hby0 := Box.new (w.alloc (.cells #[.int .i64 a, .int .i64 c] 24)) ⟨a2, c2⟩ 24
      have hs1 : (w.alloc (.cells #[.int .i64 a, .int .i64 c] 24)).heap.size = w.heap.size + 1 := by simp
      rw [hs1] at hby0
      have HBY := Lib.hid hby0
      clear hby0 hs1
      have HB0 := Lib.hid (balloc HB0.out (.cells #[.int .i64 a2, .int .i64 c2] 24))
      unfold Law
      go_enter Tryd.func4, Tryd.ntmps4
      go_wp2_with fail
      refine (FA.out _ HB0.out).mono ?_; rintro e w1 ⟨rfl, hb1⟩
      have HB1 := Lib.hid (bcall HB0.out hb1)
      have HBX := Lib.hid (HBX.out.below hb1 HBX.out.1)
      have HBY := Lib.hid (HBY.out.below hb1 HBY.out.1)
      clear FA hb1 HB0
      go_wp2_with fail
      refine (NB.out _).mono ?_; rintro e w2 ⟨rfl, rfl⟩
      go_wp2_with fail
      refine (I1.out _).mono ?_; rintro e w3 ⟨rfl, rfl⟩
      go_wp2_with fail
      refine (I2.out _).mono ?_; rintro e w3 ⟨rfl, rfl⟩
      go_wp2_with fail
      go_ret
      exact ⟨by first | rfl | simp, HB1.out⟩
    · have I2 := Lib.hid (fun W => Ring.in_any many 1 30 W false (in_false h2))
      clear h h1 h2
      have FA := Lib.hid (fun W (hW : Below w.heap.size w W) => fact_any W (hg.below hW))
      have HBX := Lib.hid (Box.new w ⟨a, c⟩ 24)
      have HB0 := Lib.hid (balloc (brefl w) (.cells #[.int .i64 a, .int .i64 c] 24))
      have HBX := Lib.hid (HBX.out.alloc (.cells #[.int .i64 a2, .int .i64 c2] 24))
      have hby0 := Box.new (w.alloc (.cells #[.int .i64 a, .int .i64 c] 24)) ⟨a2, c2⟩ 24
      have hs1 : (w.alloc (.cells #[.int .i64 a, .int .i64 c] 24)).heap.size = w.heap.size + 1 := by simp
      rw [hs1] at hby0
      have HBY := Lib.hid hby0
      clear hby0 hs1
      have HB0 := Lib.hid (balloc HB0.out (.cells #[.int .i64 a2, .int .i64 c2] 24))
      unfold Law
      go_enter Tryd.func4, Tryd.ntmps4
      go_wp2_with fail
      refine (FA.out _ HB0.out).mono ?_; rintro e w1 ⟨rfl, hb1⟩
      have HB1 := Lib.hid (bcall HB0.out hb1)
      have HBX := Lib.hid (HBX.out.below hb1 HBX.out.1)
      have HBY := Lib.hid (HBY.out.below hb1 HBY.out.1)
      clear FA hb1 HB0
      go_wp2_with fail
      refine (NB.out _).mono ?_; rintro e w2 ⟨rfl, rfl⟩
      go_wp2_with fail
      refine (I1.out _).mono ?_; rintro e w3 ⟨rfl, rfl⟩
      go_wp2_with fail
      refine (I2.out _).mono ?_; rintro e w3 ⟨rfl, rfl⟩
      go_wp2_with fail
      go_ret
      exact ⟨by first | rfl | simp, HB1.out⟩
  · have I1 := Lib.hid (fun W => Ring.in_any low 0 65535 W false (in_false h1))
    clear h h1
    have FA := Lib.hid (fun W (hW : Below w.heap.size w W) => fact_any W (hg.below hW))
    have HBX := Lib.hid (Box.new w ⟨a, c⟩ 24)
    have HB0 := Lib.hid (balloc (brefl w) (.cells #[.int .i64 a, .int .i64 c] 24))
    have HBX := Lib.hid (HBX.out.alloc (.cells #[.int .i64 a2, .int .i64 c2] 24))
    have hby0 := Box.new (w.alloc (.cells #[.int .i64 a, .int .i64 c] 24)) ⟨a2, c2⟩ 24
    have hs1 : (w.alloc (.cells #[.int .i64 a, .int .i64 c] 24)).heap.size = w.heap.size + 1 := by simp
    rw [hs1] at hby0
    have HBY := Lib.hid hby0
    clear hby0 hs1
    have HB0 := Lib.hid (balloc HB0.out (.cells #[.int .i64 a2, .int .i64 c2] 24))
    unfold Law
    go_enter Tryd.func4, Tryd.ntmps4
    go_wp2_with fail
    refine (FA.out _ HB0.out).mono ?_; rintro e w1 ⟨rfl, hb1⟩
    have HB1 := Lib.hid (bcall HB0.out hb1)
    have HBX := Lib.hid (HBX.out.below hb1 HBX.out.1)
    have HBY := Lib.hid (HBY.out.below hb1 HBY.out.1)
    clear FA hb1 HB0
    go_wp2_with fail
    refine (NB.out _).mono ?_; rintro e w2 ⟨rfl, rfl⟩
    go_wp2_with (go_at_call 9; refine (I1.out _).mono ?_; rintro e w3 ⟨rfl, rfl⟩)
    go_ret
    exact ⟨rfl, HB1.out⟩

theorem law_good (low many : Nat) (p : Option Addr) (m cap : Nat) (ls : List (List Int)) (a c a2 c2 : Int) (w : World) (hg : Handle w) (hm1 : 1 ≤ many) (hm2 : many ≤ 30) (hm3 : low + many ≤ 65536) (hm : m = ls.length) (hi : RowsI w p cap ls) : Law low many p m cap a c a2 c2 w := by
  have HM := Lib.hid hm
  have HI := Lib.hid hi
  have hgd : Tryd.prog.eqGuardType Tryd.prog.depth 24 = false := by kernel_rfl
  have hmix : Tryd.prog.follows .mixedOrders = true := by kernel_rfl
  clear hi hm
  have NG := Lib.hid (fun W => new_good low many W hm1 hm2 hm3)
  have FA := Lib.hid (fun W (hW : Below w.heap.size w W) => fact_any W (hg.below hW))
  have HBX := Lib.hid (Box.new w ⟨a, c⟩ 24)
  have HB0 := Lib.hid (balloc (brefl w) (.cells #[.int .i64 a, .int .i64 c] 24))
  have HBX := Lib.hid (HBX.out.alloc (.cells #[.int .i64 a2, .int .i64 c2] 24))
  have hby0 := Box.new (w.alloc (.cells #[.int .i64 a, .int .i64 c] 24)) ⟨a2, c2⟩ 24
  have hs1 : (w.alloc (.cells #[.int .i64 a, .int .i64 c] 24)).heap.size = w.heap.size + 1 := by simp
  rw [hs1] at hby0
  have HBY := Lib.hid hby0
  clear hby0 hs1
  have HB0 := Lib.hid (balloc HB0.out (.cells #[.int .i64 a2, .int .i64 c2] 24))
  unfold Law
  go_enter Tryd.func4, Tryd.ntmps4
  go_wp2_with fail
  refine (FA.out _ HB0.out).mono ?_; rintro e w1 ⟨rfl, hb1⟩
  have HB1 := Lib.hid (bcall HB0.out hb1)
  have HBX := Lib.hid (HBX.out.below hb1 HBX.out.1)
  have HBY := Lib.hid (HBY.out.below hb1 HBY.out.1)
  clear FA hb1 HB0
  go_wp2_with fail
  refine (NG.out _).mono ?_; rintro e w2 ⟨b, rfl, ht2, hb2⟩
  have HB2 := Lib.hid (bcall HB1.out hb2)
  have HT := Lib.hid ht2
  have hbx : (fun k => k < w1.heap.size) w.heap.size := HBX.out.1
  have HXB := Lib.hid hbx
  have HBX := Lib.hid (HBX.out.below hb2 HBX.out.1)
  have hby : (fun k => k < w1.heap.size) (w.heap.size + 1) := HBY.out.1
  have HYB := Lib.hid hby
  have HBY := Lib.hid (HBY.out.below hb2 HBY.out.1)
  have HXX := Lib.hid (fun k (hk : k < w.heap.size) => (show (fun k => k < w1.heap.size) k from Nat.lt_of_lt_of_le hk HB1.out.size))
  generalize hX : (fun k => k < w1.heap.size) = X at HT HXX HXB HYB
  clear hb2 ht2 NG HB1 hX hbx hby
  go_wp2_with fail
  refine (did_any X b 0 low many (fun _ => none) p cap m ls w w2 HM.out HI.out HB2.out HXX.out HT.out (by omega)).mono ?_; rintro e w3 ⟨rfl, h3, ht3, hk3⟩
  have HB3 := Lib.hid (HB2.out.trans (hk3.below HXX.out))
  have HBX := Lib.hid (HBX.out.keep hk3 HXB.out)
  have HBY := Lib.hid (HBY.out.keep hk3 HYB.out)
  have HT := Lib.hid ht3
  clear hk3 ht3 HB2
  have c4 := HBX.out.2.1
  have c5 := HBX.out.2.2
  go_wp2_with fail
  refine (out_any X b (0 + 60) low many h3 ⟨a, c⟩ w3 HT.out (by omega)).mono ?_; rintro e w4 ⟨port1, cc1, h4, rfl, hR4, ht4, hk4⟩
  have HB4 := Lib.hid (HB3.out.trans (hk4.below HXX.out))
  have HBX := Lib.hid (HBX.out.keep hk4 HXB.out)
  have HBY := Lib.hid (HBY.out.keep hk4 HYB.out)
  have HR4 := Lib.hid hR4
  have HT4 := Lib.hid ht4
  clear hk4 ht4 HB3 HT hR4 c4 c5
  have c4 := HBY.out.2.1
  have c5 := HBY.out.2.2
  obtain ⟨ve1, hv1⟩ : ∃ v, er cc1 = v := ⟨_, rfl⟩
  rw [hv1]
  have HV1e := Lib.hid hv1
  clear hv1
  go_wp2_with fail
  refine (out_any X b (0 + 60 + 1) low many h4 ⟨a2, c2⟩ w4 HT4.out (by omega)).mono ?_; rintro e w5 ⟨port2, cc2, h5, rfl, hR5, ht5, hk5⟩
  have HB5 := Lib.hid (HB4.out.trans (hk5.below HXX.out))
  have HBX := Lib.hid (HBX.out.keep hk5 HXB.out)
  have HBY := Lib.hid (HBY.out.keep hk5 HYB.out)
  have HT5 := Lib.hid ht5
  obtain ⟨ve2, hv2⟩ : ∃ v, er cc2 = v := ⟨_, rfl⟩
  rw [hv2]
  have HV1 : Hid ((ve1 = .nilIface ∧ h5 port1 = some ⟨a, c⟩) ∨ ∃ cc, ve1 = .iface 55 (.int .i64 cc)) := Lib.hid (by
    rcases HR4.out.cases with ⟨e1, e2⟩ | ⟨e1, e2⟩
    · exact .inl ⟨by rw [← HV1e.out, e1]; rfl, hR5.keeps e2⟩
    · exact .inr ⟨cc1, by rw [← HV1e.out, e2]⟩)
  have HV2 : Hid ((ve2 = .nilIface ∧ h5 port2 = some ⟨a2, c2⟩) ∨ ∃ cc, ve2 = .iface 55 (.int .i64 cc)) := Lib.hid (by
    rcases hR5.cases with ⟨e1, e2⟩ | ⟨e1, e2⟩
    · exact .inl ⟨by rw [← hv2, e1]; rfl, e2⟩
    · exact .inr ⟨cc2, by rw [← hv2, e2]⟩)
  clear hk5 ht5 HB4 HT4 hR5 c4 c5 HR4 HV1e hv2
  go_wp2_with fail
  refine (lent_any X b (0 + 60 + 1 + 1) low many h5 w5 HT5.out (by omega)).mono ?_; rintro e w7 ⟨v, rfl, ho7, hb7⟩
  have HB7 := Lib.hid (bcall HB5.out hb7)
  have HBX := Lib.hid (HBX.out.below hb7 HBX.out.1)
  have HBY := Lib.hid (HBY.out.below hb7 HBY.out.1)
  have HT7 := Lib.hid (HT5.out.below hb7)
  have HTB := Lib.hid HT7.out.tb
  have hll := lentL_len low many h5
  have HZ := Lib.hid (lent_facts HTB.out)
  generalize lentL low many h5 = L at ho7 hll HZ
  obtain ⟨q, cp, rfl, hI7, _⟩ := own_read ho7
  obtain ⟨n, hn⟩ : ∃ n, L.length = n := ⟨_, rfl⟩
  rw [hn] at hll HZ ⊢
  have HI7 := Lib.hid (ints_all hI7)
  have hlen := hI7.len_le
  rw [hn] at HI7 hlen
  have u0 : decide ((n : Int) > (many : Int)) = false := decide_eq_false (by omega)
  have u0' : decide ((many : Int) < (n : Int)) = false := u0
  have u0'' : decide (many < n) = false := decide_eq_false (by omega)
  have HSZ := Lib.hid (Nat.le_trans HB7.out.size (Nat.le_refl _))
  clear ho7 hb7 hI7 HB5 HT5 hn
  go_wp2_with fail
  go_loopw [19] (fun iv wr => ∃ k : Nat, k ≤ n ∧ iv = .int .i64 (k : Int) ∧ Hid (Below w7.heap.size w7 wr)) (fun i _ => n - vN i)
  case atStart => exact ⟨0, Nat.zero_le _, rfl, Lib.hid (brefl w7)⟩
  case round =>
    obtain ⟨k, hk, rfl, HWB⟩ := hrel
    by_cases hlt : k < n
    · have u1 : decide ((k : Int) < (n : Int)) = true := decide_eq_true (by omega)
      obtain ⟨b1, off, rfl, hcell⟩ := HI7.out (by omega)
      have HCE := Lib.hid hcell
      clear hcell
      have hz0 := HCE.out wr HWB.out k hlt
      obtain ⟨hat, hwf⟩ := HZ.out.1 k hlt
      obtain ⟨z, hz⟩ : ∃ z, (L[k]?.getD 0) = z := ⟨_, rfl⟩
      rw [hz] at hz0 hat hwf
      obtain ⟨⟨y1, y2⟩, hy⟩ : ∃ y, atOf h5 z = y := ⟨_, rfl⟩
      have CI := Lib.hid (in_any X b (0 + 60 + 1 + 1) low many h5 z wr (HT7.out.below HWB.out) hwf)
      have e2 : noneC h5 z = 0 := by unfold noneC; rw [hat]; rfl
      rw [hy, e2, er_0] at CI
      have HHZ := Lib.hid hz
      have HHY := Lib.hid hy
      clear hat hwf hy hz e2
      go_wp2_with fail
      refine CI.out.mono ?_; rintro e w8 ⟨rfl, hb8⟩
      have hbxA := Box.new w8 ⟨y1, y2⟩ 24
      have HW8 := Lib.hid (balloc (bcall HWB.out hb8) (.cells #[.int .i64 y1, .int .i64 y2] 24))
      go_wp2_with fail
      generalize w8.alloc (.cells #[.int .i64 y1, .int .i64 y2] 24) = w9 at hbxA HW8 ⊢
      generalize w8.heap.size = g9 at hbxA ⊢
      have HBA := Lib.hid hbxA
      have hz1 := HCE.out w9 HW8.out k hlt
      rw [HHZ.out] at hz1
      clear hbxA hb8 CI hz0
      have hkn : k < n := hlt
      rcases Nat.eq_zero_or_pos k with hk0 | hk0
      · have t0 : decide (0 < (k : Int)) = false := decide_eq_false (by omega)
        have t1 : decide (0 < k) = false := decide_eq_false (by omega)
        clear hk0
        go_quiet (fail)
        have HWQ := Lib.hid (bdrewN HW8.out nq)
        have HBQ := Lib.hid (HBA.out.drewN nq)
        clear HW8 HBA hz1 HWB
        generalize w9.drewN nq = w10 at HWQ HBQ ⊢
        go_wp2_with fail
        go_loopw [22] (fun jv wq => ∃ i : Nat, i ≤ k ∧ jv = .int .i64 (i : Int) ∧ Hid (Below w10.heap.size w10 wq)) (fun i _ => k - vN i)
        case atStart => exact ⟨0, Nat.zero_le _, rfl, Lib.hid (brefl w10)⟩
        case round =>
          obtain ⟨i, hik, rfl, HW2⟩ := hrel
          by_cases hlti : i < k
          · have u2 : decide ((i : Int) < (k : Int)) = true := decide_eq_true (by omega)
            have hin : i < n := by omega
            have HWr := Lib.hid (bcall HWQ.out HW2.out)
            have hz2 := HCE.out wr HWr.out i hin
            obtain ⟨hat, hwf⟩ := HZ.out.1 i hin
            have hne := (HZ.out.2 i k hlti hkn).2
            obtain ⟨z2, hz3⟩ : ∃ z, (L[i]?.getD 0) = z := ⟨_, rfl⟩
            rw [hz3, HHZ.out, HHY.out] at hne
            rw [hz3] at hz2 hat hwf
            obtain ⟨⟨x1, x2⟩, hx⟩ : ∃ x, atOf h5 z2 = x := ⟨_, rfl⟩
            rw [hx] at hne
            have CI2 := Lib.hid (in_any X b (0 + 60 + 1 + 1) low many h5 z2 wr (HT7.out.below HWr.out) hwf)
            have e2 : noneC h5 z2 = 0 := by unfold noneC; rw [hat]; rfl
            rw [hx, e2, er_0] at CI2
            have E : ∀ W, (Op.equalIn 10000 24 (.agg #[.int .i64 y1, .int .i64 y2]) (.agg #[.int .i64 x1, .int .i64 x2])).run Tryd.prog W = .ok false W := fun W => by
              rw [eqX]
              have : (y1 == x1 && y2 == x2) = false := by
                rw [Bool.and_eq_false_iff, beq_eq_false_iff_ne, beq_eq_false_iff_ne]
                by_cases e : y1 = x1
                · exact .inr (fun e2 => hne (by rw [e, e2]))
                · exact .inl e
              rw [this]
            clear hat hwf hx hz3 e2 hne
            go_wp2_with fail
            refine CI2.out.mono ?_; rintro e w11 ⟨rfl, hb11⟩
            have hbxA := Box.new w11 ⟨x1, x2⟩ 24
            have HW11 := Lib.hid (balloc (bcall HW2.out hb11) (.cells #[.int .i64 x1, .int .i64 x2] 24))
            have hbxB := HBQ.out.below HW11.out HBQ.out.1
            have d0 := hbxA.2.1
            have d1 := hbxA.2.2
            have d2 := hbxB.2.1
            have d3 := hbxB.2.2
            clear hbxA hbxB hb11 CI2 HW2 HWr hz2
            go_wp2_with fail
            go_roundw
            case rel => exact ⟨i + 1, by omega, by first | rfl | go_num, HW11⟩
            case measure => simp [vN]; omega
          · obtain rfl : i = k := by omega
            have u2 : decide ((i : Int) < (i : Int)) = false := decide_eq_false (by omega)
            have HWr := Lib.hid (bcall HWQ.out HW2.out)
            go_wp2_with fail
            go_roundw
            case rel => exact ⟨i + 1, by omega, by first | rfl | go_num, HWr⟩
            case measure => simp [vN]; omega
      · obtain ⟨j, hj⟩ : ∃ j, k = j + 1 := ⟨k - 1, by omega⟩
        have t0 : decide (0 < (k : Int)) = true := decide_eq_true (by omega)
        have t1 : decide (0 < k) = true := decide_eq_true (by omega)
        have u5 : IntKind.i64.wrap ((k : Int) - 1) = (j : Int) := by rw [wrap_in (by omega)]; omega
        have hjn : j < n := by omega
        have hzj := HCE.out w9 HW8.out j hjn
        have hlt2 := (HZ.out.2 j k (by omega) hlt).1
        rw [HHZ.out] at hlt2
        generalize L[j]?.getD 0 = zj at hzj hlt2
        have u6 : decide (z ≤ zj) = false := decide_eq_false (by omega)
        clear hk0 hj hlt2
        go_quiet (fail)
        have HWQ := Lib.hid (bdrewN HW8.out nq)
        have HBQ := Lib.hid (HBA.out.drewN nq)
        clear HW8 HBA hz1 hzj u6 u5 hjn HWB
        generalize w9.drewN nq = w10 at HWQ HBQ ⊢
        go_wp2_with fail
        go_loopw [22] (fun jv wq => ∃ i : Nat, i ≤ k ∧ jv = .int .i64 (i : Int) ∧ Hid (Below w10.heap.size w10 wq)) (fun i _ => k - vN i)
        case atStart => exact ⟨0, Nat.zero_le _, rfl, Lib.hid (brefl w10)⟩
        case round =>
          obtain ⟨i, hik, rfl, HW2⟩ := hrel
          by_cases hlti : i < k
          · have u2 : decide ((i : Int) < (k : Int)) = true := decide_eq_true (by omega)
            have hin : i < n := by omega
            have HWr := Lib.hid (bcall HWQ.out HW2.out)
            have hz2 := HCE.out wr HWr.out i hin
            obtain ⟨hat, hwf⟩ := HZ.out.1 i hin
            have hne := (HZ.out.2 i k hlti hkn).2
            obtain ⟨z2, hz3⟩ : ∃ z, (L[i]?.getD 0) = z := ⟨_, rfl⟩
            rw [hz3, HHZ.out, HHY.out] at hne
            rw [hz3] at hz2 hat hwf
            obtain ⟨⟨x1, x2⟩, hx⟩ : ∃ x, atOf h5 z2 = x := ⟨_, rfl⟩
            rw [hx] at hne
            have CI2 := Lib.hid (in_any X b (0 + 60 + 1 + 1) low many h5 z2 wr (HT7.out.below HWr.out) hwf)
            have e2 : noneC h5 z2 = 0 := by unfold noneC; rw [hat]; rfl
            rw [hx, e2, er_0] at CI2
            have E : ∀ W, (Op.equalIn 10000 24 (.agg #[.int .i64 y1, .int .i64 y2]) (.agg #[.int .i64 x1, .int .i64 x2])).run Tryd.prog W = .ok false W := fun W => by
              rw [eqX]
              have : (y1 == x1 && y2 == x2) = false := by
                rw [Bool.and_eq_false_iff, beq_eq_false_iff_ne, beq_eq_false_iff_ne]
                by_cases e : y1 = x1
                · exact .inr (fun e2 => hne (by rw [e, e2]))
                · exact .inl e
              rw [this]
            clear hat hwf hx hz3 e2 hne
            go_wp2_with fail
            refine CI2.out.mono ?_; rintro e w11 ⟨rfl, hb11⟩
            have hbxA := Box.new w11 ⟨x1, x2⟩ 24
            have HW11 := Lib.hid (balloc (bcall HW2.out hb11) (.cells #[.int .i64 x1, .int .i64 x2] 24))
            have hbxB := HBQ.out.below HW11.out HBQ.out.1
            have d0 := hbxA.2.1
            have d1 := hbxA.2.2
            have d2 := hbxB.2.1
            have d3 := hbxB.2.2
            clear hbxA hbxB hb11 CI2 HW2 HWr hz2
            go_wp2_with fail
            go_roundw
            case rel => exact ⟨i + 1, by omega, by first | rfl | go_num, HW11⟩
            case measure => simp [vN]; omega
          · obtain rfl : i = k := by omega
            have u2 : decide ((i : Int) < (i : Int)) = false := decide_eq_false (by omega)
            have HWr := Lib.hid (bcall HWQ.out HW2.out)
            go_wp2_with fail
            go_roundw
            case rel => exact ⟨i + 1, by omega, by first | rfl | go_num, HWr⟩
            case measure => simp [vN]; omega
    · obtain rfl : k = n := by omega
      have u1 : decide ((k : Int) < (k : Int)) = false := decide_eq_false (by omega)
      rcases HV1.out with ⟨rfl, hp1⟩ | ⟨cc, rfl⟩
      · rcases HV2.out with ⟨rfl, hp2⟩ | ⟨cc, rfl⟩
        · have hxb := HBX.out.below HWB.out HBX.out.1
          have hyb := HBY.out.below HWB.out HBY.out.1
          have d0 := hxb.2.1
          have d1 := hxb.2.2
          have d2 := hyb.2.1
          have d3 := hyb.2.2
          by_cases hxy : a = a2 ∧ c = c2
          · obtain ⟨rfl, rfl⟩ := hxy
            have hab : port1 = port2 := HTB.out.inj _ _ _ hp1 hp2
            have v1 : (port1 == port2) = true := by rw [beq_iff_eq]; exact hab
            have E : ∀ W, (Op.equalIn 10000 24 (.agg #[.int .i64 a, .int .i64 c]) (.agg #[.int .i64 a, .int .i64 c])).run Tryd.prog W = .ok true W := fun W => by rw [eqX]; simp
            clear hab hxb hyb hp1 hp2
            go_wp2_with fail
            go_ret
            exact ⟨by first | rfl | simp [v1], (HB7.out.trans (HWB.out.mono HSZ.out))⟩
          · have hab : port1 ≠ port2 := fun e => by
              rw [e, hp2] at hp1
              injection hp1 with hp1
              injection hp1 with e1 e2
              exact hxy ⟨e1.symm, e2.symm⟩
            have v1 : (port1 == port2) = false := by rw [beq_eq_false_iff_ne]; exact hab
            have E : ∀ W, (Op.equalIn 10000 24 (.agg #[.int .i64 a, .int .i64 c]) (.agg #[.int .i64 a2, .int .i64 c2])).run Tryd.prog W = .ok false W := fun W => by
              rw [eqX]
              have : (a == a2 && c == c2) = false := by
                rw [Bool.and_eq_false_iff, beq_eq_false_iff_ne, beq_eq_false_iff_ne]
                by_cases e : a = a2
                · exact .inr (fun e2 => hxy ⟨e, e2⟩)
                · exact .inl e
              rw [this]
            clear hab hxb hyb hp1 hp2 hxy
            go_wp2_with fail
            go_ret
            exact ⟨by first | rfl | simp [v1], (HB7.out.trans (HWB.out.mono HSZ.out))⟩
        · go_wp2_with fail
          go_ret
          exact ⟨by first | rfl | simp, (HB7.out.trans (HWB.out.mono HSZ.out))⟩
      · go_wp2_with fail
        go_ret
        exact ⟨by first | rfl | simp, (HB7.out.trans (HWB.out.mono HSZ.out))⟩

theorem reads : Tryd.f4.params.toList.all (fun t => Tryd.prog.readableRec t && decide (t < Tryd.prog.types.size)) = true := by kernel_rfl
theorem et : Tryd.prog.globalNamed "errors.errorType" = some 0 := by kernel_rfl
theorem rt : (Tryd.prog.cutTypes.find? (·.1 == "internal/reflectlite.rtype")).map (·.2) = some 102 := by kernel_rfl
theorem oneRow : ((List.range Tryd.prog.types.size).filter fun t => Tryd.prog.rowNamed t [101, 114, 114, 111, 114]) = [28] := by kernel_rfl

theorem handle_of_laid {W : World} (h : laidMetH Tryd.prog Rows.natApartRow.laid W) : Handle W := by
  have h' : laidMet Tryd.prog [] W ∧ handlesMet Tryd.prog Rows.natApartRow.laid W := h
  obtain ⟨name, u, ty, e1, e2, e3, e4, e5⟩ := h'.2 _ (List.mem_singleton.2 rfl)
  have en : name = [101, 114, 114, 111, 114] := (Option.some.inj e1).symm
  subst en
  obtain rfl := Option.some.inj (rt.symm.trans e2)
  have hm : ty ∈ (List.range Tryd.prog.types.size).filter fun t => Tryd.prog.rowNamed t [101, 114, 114, 111, 114] := List.mem_filter.2 ⟨List.mem_range.2 e3, e4⟩
  rw [oneRow] at hm
  obtain rfl := List.mem_singleton.1 hm
  have hh : typeHandle Tryd.prog 28 = .pointer (some ⟨1, 28, none⟩) := by kernel_rfl
  rw [hh] at e5
  have e6 := World.var?_cell et e5 0
  unfold Handle
  simpa using e6

noncomputable def laidWorld (os : Os) : World :=
  { World.holding Tryd.prog os ⟨#[], #[], []⟩ with heap := (World.holding Tryd.prog os ⟨#[], #[], []⟩).heap.modify 0 fun
      | .cells _ t frozen => .cells #[.iface 102 (.agg #[.pointer (some ⟨1, 28, none⟩)])] t frozen
      | o => o }
theorem laid_met (os : Os) : laidMetH Tryd.prog Rows.natApartRow.laid ((laidWorld os).forCall (fun _ _ => 0) ⟨#[], #[.int .i64 0, .int .i64 0, .slice none 0 0, .agg #[.int .i64 0, .int .i64 0], .agg #[.int .i64 0, .int .i64 0]], []⟩).memory :=
  laidMetH_of_parts (laidMet_nil _ _) (by kernel_rfl)
theorem reads_wit (os : Os) {H : Type} (enc : TypeId × Value → H) : ∃ places, DataW.whole enc Tryd.prog ((laidWorld os).forCall (fun _ _ => 0) ⟨#[], #[.int .i64 0, .int .i64 0, .slice none 0 0, .agg #[.int .i64 0, .int .i64 0], .agg #[.int .i64 0, .int .i64 0]], []⟩).memory Tryd.f4.params.toList Rows.natApartSpec.vars false (#[.int .i64 0, .int .i64 0, .slice none 0 0, .agg #[.int .i64 0, .int .i64 0], .agg #[.int .i64 0, .int .i64 0]] : Array Value).toList 8 = some ([.lit (.int .i64 0), .lit (.int .i64 0), .nil, .agg [.lit (.int .i64 0), .lit (.int .i64 0)], .agg [.lit (.int .i64 0), .lit (.int .i64 0)]], [], places) :=
  ⟨[], by kernel_rfl⟩

theorem contract (H : Type) (enc : TypeId × Value → H) (W : World) (base : Nat) (args : Array Value) (ds gs : List (DataW H)) (before : List MemPlace)
    (hval : ∀ (j : Nat) t v, Tryd.f4.params[j]? = some t → args[j]? = some v → Value.okWide Tryd.prog W .any base t v)
    (hW : DataW.Whole enc Tryd.prog Tryd.f4.params.toList Rows.natApartSpec.vars false W args.toList ds gs before) (hL : laidMetH Tryd.prog Rows.natApartRow.laid W) :
    Calls Tryd.prog 4 args W fun e W' => ∃ v, e = .returned v ∧ Rows.natApartSpec.post enc Tryd.prog Tryd.f4 false true false false W args v W' := by
  have hW' := hW
  have hg := handle_of_laid hL
  obtain ⟨p, q, hA0, hV, rfl, hfz, hnd⟩ := hW
  have hA : DataW.TrodAll enc Tryd.prog W 0 (fun _ => true) true Tryd.f4.params.toList args.toList ds p := hA0
  have hlt := hA.lt
  rw [Tryd.params4] at hA hval
  obtain ⟨v0, vs0, d0, ds0, p0, q0, hargs, rfl, rfl, h0, r0⟩ := trodAll_cons hA
  obtain ⟨v1, vs1, d1, ds1, p1, q1, hvs1, rfl, rfl, h1, r1⟩ := trodAll_cons r0
  obtain ⟨v2, vs2, d2, ds2, p2, q2, hvs2, rfl, rfl, h2, r2⟩ := trodAll_cons r1
  obtain ⟨v3, vs3, d3, ds3, p3, q3, hvs3, rfl, rfl, h3, r3⟩ := trodAll_cons r2
  obtain ⟨v4, vs4, d4, ds4, p4, q4, hvs4, rfl, rfl, h4, r4⟩ := trodAll_cons r3
  obtain ⟨hvsn, rfl, rfl⟩ := trodAll_nil r4
  simp only [hvsn, hvs4, hvs3, hvs2, hvs1] at hargs
  obtain rfl : args = #[v0, v1, v2, v3, v4] := by cases args; simp_all
  obtain ⟨a0, rfl, rfl, rfl, w0⟩ := open_int Tryd.underlying3 (hval 0 3 v0 rfl rfl) h0
  have b0 := bounds_int w0
  obtain ⟨a1, rfl, rfl, rfl, w1⟩ := open_int Tryd.underlying3 (hval 1 3 v1 rfl rfl) h1
  have b1 := bounds_int w1
  obtain ⟨p2a, cap2, l2, rfl, i2, e2⟩ := open_rows Tryd.underlying22 Tryd.underlying35 Tryd.underlying3 (by kernel_rfl) (by kernel_rfl) (hval 2 22 v2 rfl rfl) h2 (fun x hx => hlt x (by simp [hx]))
  obtain ⟨x3, rfl, f3⟩ := Go.Proofs.YtlojehakifagbaaDoor.Nat_.open_place (hval 3 24 v3 rfl rfl) h3
  obtain ⟨x4, rfl, f4⟩ := Go.Proofs.YtlojehakifagbaaDoor.Nat_.open_place (hval 4 24 v4 rfl rfl) h4
  obtain ⟨rfl, rfl⟩ := trodVars_none hV
  clear hA0
  exact law_post 4 laid reads rfl Tryd.underlying4 rfl hW' ⟨rfl, rfl, rfl⟩ (by
    by_cases h : okN a0 a1
    · obtain ⟨low, rfl⟩ : ∃ n : Nat, a0 = n := ⟨a0.toNat, by have := h.1.1; omega⟩
      obtain ⟨many, rfl⟩ : ∃ n : Nat, a1 = n := ⟨a1.toNat, by have := h.2.1; omega⟩
      exact law_good low many _ _ _ l2 x3.adr x3.prt x4.adr x4.prt W hg (by have := h.2.1; omega) (by have := h.2.2.1; omega) (by have := h.2.2.2; omega) rfl i2
    · exact law_bad _ _ _ x3.adr x3.prt x4.adr x4.prt a0 a1 W hg h b1)

set_option maxRecDepth 100000 in
theorem lifted (os : Os) (started : os.Started) (H : Type) (enc : TypeId × Value → H) (F : Stop.Interp) :
    ReturnsInHanded {} Tryd.checked os 4 .any ((OpenSpec.ofChange Rows.natApartSpec).preRow enc Tryd.prog Tryd.f4 Rows.natApartRow.domain false Rows.natApartRow.laid) (((OpenSpec.ofChange Rows.natApartSpec).at F).post enc Tryd.prog Tryd.f4 false true false false) := by
  obtain ⟨places, hx⟩ := reads_wit os enc
  refine returnsInHanded_of_row (C := Tryd.checked) (s := (OpenSpec.ofChange Rows.natApartSpec)) own started (by kernel_rfl) Tryd.func4
    (witness_row_at (enc := enc) (C := Tryd.checked) false (laidWorld os) #[.int .i64 0, .int .i64 0, .slice none 0 0, .agg #[.int .i64 0, .int .i64 0], .agg #[.int .i64 0, .int .i64 0]] rfl (by kernel_rfl) (by kernel_rfl) (by kernel_rfl)
      (OpenSpec.preRow_of_cond 8 hx (by kernel_rfl) (fun k hk => by cases hk) (by kernel_rfl) (laid_met os))) ?_
  intro W base args ds gs before hval hW _ hcond _ hL _ _
  exact contract H enc W base args ds gs before hval hW hL

theorem said : Rows.NatApartSaid :=
  OpenClaim.holds_of_cond 4 Tryd.f4 rfl rfl rfl rfl rfl rfl rfl ⟨rfl, rfl, rfl, rfl, rfl⟩ rfl rfl rfl rfl rfl (by kernel_rfl) Tryd.func4 (by kernel_rfl)
    (of_decide_eq_true (by kernel_rfl)) (by unfold Func.isWrapper; first | (rw [if_pos (by decide +kernel)]; kernel_rfl) | (rw [if_neg (by decide +kernel)]; exact ⟨rfl, rfl⟩))
    (fun os started H enc _ F => by rw [OpenClaim.pre_eq_preRow]; exact lifted os started H enc F)

theorem plain (f : FuncId) (fn : Func) (hf : Tryd.pinned.checked.prog.funcNamed Rows.natApartRow.func = some f) (hfn : Tryd.pinned.checked.prog.funcs[f]? = some fn) :
    true = Tryd.pinned.checked.prog.looks [] ∧ ∀ (j : Nat) t, fn.params[j]? = some t → Tryd.pinned.checked.prog.wantsStandIn t = false := by
  obtain rfl : f = 4 := Option.some.inj ((show Tryd.prog.funcNamed Rows.natApartRow.func = some 4 by kernel_rfl).symm.trans hf) |>.symm
  obtain rfl : fn = Tryd.f4 := (Option.some.inj (Tryd.func4.symm.trans hfn)).symm
  refine ⟨by kernel_rfl, fun j t ht => ?_⟩
  have hall : Tryd.f4.params.toList.all (fun t => !Tryd.prog.wantsStandIn t) = true := by kernel_rfl
  have hm : t ∈ Tryd.f4.params.toList := by simpa using Array.mem_of_getElem? ht
  have := List.all_eq_true.1 hall t hm
  show Tryd.prog.wantsStandIn t = false
  simpa using this

theorem proved : Rows.NatApartCardSaid :=
  Claim7.holds_tied_plain_at .later [] _ _ _ _ said (fun _ h => by cases h) (by kernel_rfl) (fun _ h => by cases h) natApart_row_tie rfl ⟨rfl, rfl⟩ (by kernel_rfl) rfl plain (by kernel_rfl)
end Go.Proofs.YtlojehakifagbaaDoor.NatApartL
