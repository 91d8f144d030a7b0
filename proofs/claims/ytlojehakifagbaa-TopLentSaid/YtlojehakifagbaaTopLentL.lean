/- TopLent: of places that go out, what comes in by their ports goes to each by the route of its address: for every input. -/
import Derived.Test.YtlojehakifagbaaLentMath
import Derived.Test.YtlojehakifagbaaNatLent
import Derived.Test.YtlojehakifagbaaPlaces
import Derived.Test.YtlojehakifagbaaInTop
import Derived.BigQuiet
namespace Go.Proofs.Ytlojehakifagbaa.TopLentL
open Go.ChangeShapes Go.WideShapes Go.ChangeAt Go.RowKit Go.Proofs.Ytlojehakifagbaa.Kit Go.Proofs.Ytlojehakifagbaa.App Go.Proofs.Ytlojehakifagbaa.Cells Go.Proofs.Ytlojehakifagbaa.Err Go.Proofs.Ytlojehakifagbaa.MapG Go.Proofs.Ytlojehakifagbaa.Nat_
set_option linter.unusedVariables false
set_option maxRecDepth 20000
set_option maxHeartbeats 4000000
theorem ltab_grown {w w' : World} {g : Nat} {l : List RouteMath.Rt} {X : Nat → Prop} (h : Lpm.Tab w g l) (hk : Keep X w w') (hg : X g) : Lpm.Tab w' g l := h.keep (hk.block g hg)
theorem core (p : Option Addr) (cap n : Nat) (l : List Plc) (hop : Int) (w : World) (hn : n = l.length) (hC : CI lay w p cap l) :
    Calls Try.prog 3 #[.slice p n cap, .int .i64 hop] w fun e w' => e = .returned (.bool true) ∧ Below w.heap.size w w' := by
  have hgd : Try.prog.eqGuardType Try.prog.depth 40 = false := by kernel_rfl
  have hmix : Try.prog.follows .mixedOrders = true := by kernel_rfl
  have hlen := hC.len_le
  rw [← hn] at hlen
  have HC := Lib.hid hC
  have HN := Lib.hid hn
  have NG := Lib.hid (new_good 1000 30 w (by omega) (by omega) (by omega))
  clear hC hn
  go_enter Try.func3, Try.ntmps3
  go_wp2_with fail
  refine NG.out.mono ?_; rintro e w1 ⟨b, rfl, ht1, hb1⟩
  have HT1 := Lib.hid ht1
  have HB1 := Lib.hid hb1
  clear ht1 hb1 NG
  go_wp2_with fail
  refine (lent_any _ b 0 1000 30 (fun _ => none) w1 HT1.out (by omega)).mono ?_; rintro e w2 ⟨v, rfl, ho2, hb2⟩
  have HT2 := Lib.hid (HT1.out.below hb2)
  have HB2 := Lib.hid (bcall HB1.out hb2)
  obtain ⟨q2, c2, rfl, _, _⟩ := own_read ho2
  rw [show (lentL 1000 30 (fun _ => none)).length = 0 from rfl]
  clear ho2 hb2 HT1 HB1
  go_wp2_with fail
  refine (Lpm.new_any w2).mono ?_; rintro e w3 ⟨rfl, hl3, hb3⟩
  obtain ⟨g, hg⟩ : ∃ g, w2.heap.size = g := ⟨_, rfl⟩
  rw [hg] at hl3 ⊢
  have HL3 := Lib.hid hl3
  have HT3 : Hid (Tab (fun k => k < w.heap.size ∨ k = g) w3 b 0 1000 30 (fun _ => none)) := Lib.hid (HT2.out.late hb3 (fun k hk => by
    rcases hk with hk | hk
    · exact ⟨.inl hk, Nat.lt_of_lt_of_le hk (Nat.le_trans HB2.out.size hb3.size)⟩
    · exact ⟨.inr (by omega), by rw [hk]; exact hl3.lt⟩))
  have HB3 := Lib.hid (bcall HB2.out hb3)
  have HGW := Lib.hid (show w.heap.size ≤ g from by rw [← hg]; exact HB2.out.size)
  clear hl3 hb3 HT2 HB2 hg
  have CS0 := Lib.hid (Lpm.set_any g [] ⟨0, 0, 9⟩ w3 HL3.out Lpm.GT.nil)
  have hs0 : Lpm.setC [] ⟨0, 0, 9⟩ = 0 := setC_ok (by decide) (by decide) (by decide)
  have hlen0 := setN_len hs0
  rw [hs0, show Cidr.er 0 = .nilIface from rfl] at CS0
  have hG0 := Lpm.GT.nil.set ⟨0, 0, 9⟩
  generalize Lpm.setN [] ⟨0, 0, 9⟩ = t0 at CS0 hlen0 hG0
  clear hs0
  go_wp2_with fail
  refine CS0.out.mono ?_; rintro e w4 ⟨rfl, hl4, hg4⟩
  have HL4 := Lib.hid hl4
  have HT4 := Lib.hid (HT3.out.more hg4 (fun k e => by injection e with e; exact .inr e.symm) (fun k hk => ⟨.inl hk, Nat.lt_of_lt_of_le (HT3.out.xl k hk) hg4.size⟩))
  have HB4 := Lib.hid (HB3.out.grown hg4 HB3.out.size (fun k e => by injection e with e; rw [← e]; exact HGW.out))
  have HG0 := Lib.hid (And.intro hG0 hlen0)
  clear hl4 hg4 HT3 HB3 HL3 CS0 hG0 hlen0
  have HKB := Lib.hid (fun (w1 w2 : World) (hk : Keep (fun k => k < w.heap.size ∨ k = g) w1 w2) => hk.below (B := w.heap.size) (fun k h => .inl h))
  generalize hX : (fun k => k < w.heap.size ∨ k = g) = X at HT4 HKB
  have HXg : Hid (X g) := Lib.hid (by rw [← hX]; exact .inr rfl)
  clear hX
  go_wp2_with fail
  go_loopw [8] (fun iv wr => ∃ (k : Nat) (h : Int → Option Plc) (t : List RouteMath.Rt), k ≤ n ∧ k ≤ 30 ∧ iv = .int .i64 (k : Int) ∧ Hid (Tab X wr b k 1000 30 h) ∧ Hid (Lpm.Tab wr g t) ∧ Hid (Lpm.GT t ∧ t.length ≤ k + 1) ∧ Hid (∀ q, h q ≠ none → q < 1000 + k) ∧ Hid (Below w.heap.size w wr)) (fun i _ => 30 - vN i)
  case atStart => exact ⟨0, _, t0, Nat.zero_le _, Nat.zero_le _, rfl, HT4, HL4, HG0, Lib.hid (fun q hq => absurd rfl hq), HB4⟩
  case round =>
    obtain ⟨k, h, t, hkn, hk30, rfl, HT, HL, HG, HF, HB⟩ := hrel
    clear HT4 HL4 HG0 HB4
    by_cases h1 : k < n
    · have u1 : decide ((k : Int) < (n : Int)) = true := decide_eq_true (by omega)
      by_cases h2 : k < 30
      · have u2 : decide ((k : Int) < 30) = true := decide_eq_true (by omega)
        obtain ⟨x, hx⟩ : ∃ x, l[k]? = some x := ⟨_, List.getElem?_eq_getElem (by have := HN.out; omega)⟩
        obtain ⟨bb, off, rfl, hbb, hc⟩ := HC.out.2.2 (by have := HN.out; omega)
        have HCE : Hid (∀ W, Below w.heap.size w W → W.cell? ⟨bb, off + k * 2, none⟩ = some (.int .i64 x.adr) ∧ W.cell? ⟨bb, off + k * 2 + 1, none⟩ = some (.int .i64 x.prt)) := Lib.hid (fun W hW => ⟨(hW.cell (p := ⟨bb, off + k * 2, none⟩) hbb).trans (hc k _ hx 0 _ rfl), (hW.cell (p := ⟨bb, off + k * 2 + 1, none⟩) hbb).trans (hc k _ hx 1 _ rfl)⟩)
        obtain ⟨x0, x1⟩ := x
        simp only at HCE
        clear hc hx
        have c0 := (HCE.out wr HB.out).1
        have c1 := (HCE.out wr HB.out).2
        have CO := Lib.hid (out_any X b k 1000 30 h ⟨x0, x1⟩ wr HT.out (by omega))
        go_wp2_with fail
        refine CO.out.mono ?_; rintro e w5 ⟨port, cc, h5, rfl, hR, ht5, hk5⟩
        have HT5 := Lib.hid ht5
        have HL5 := Lib.hid (ltab_grown HL.out hk5 HXg.out)
        have HB5 := Lib.hid (HB.out.trans (HKB.out _ _ hk5))
        have c0 := (HCE.out w5 HB5.out).1
        have c1 := (HCE.out w5 HB5.out).2
        by_cases hgd2 : good ⟨x0, x1⟩
        · obtain ⟨rfl, hp5, hf5⟩ := few_step HF.out h2 hgd2 hR
          rw [er_0]
          have HF5 := Lib.hid hf5
          have hpw : (Lit.int .i64 port).wf = true := wf_in (by have := ht5.tb.rng port _ hp5; omega)
          have CI := Lib.hid (in_any X b (k + 1) 1000 30 h5 port w5 HT5.out hpw)
          rw [show atOf h5 port = ⟨x0, x1⟩ by unfold atOf; rw [hp5]; rfl, show noneC h5 port = 0 by unfold noneC; rw [hp5]; rfl, er_0] at CI
          have HGD := Lib.hid hgd2
          clear hR ht5 hk5 hp5 hf5 hgd2 HT HL HB CO HF hpw
          go_wp2_with fail
          refine CI.out.mono ?_; rintro e w6 ⟨rfl, hb6⟩
          have HT6 := Lib.hid (HT5.out.below (balloc hb6 (.cells #[.int .i64 x0, .int .i64 x1] 40)))
          have HL6 := Lib.hid (HL5.out.below (balloc hb6 (.cells #[.int .i64 x0, .int .i64 x1] 40)) HL5.out.lt)
          have HB6 := Lib.hid (bcall HB5.out (balloc hb6 (.cells #[.int .i64 x0, .int .i64 x1] 40)))
          have HBX := Lib.hid (Box.new w6 ⟨x0, x1⟩ 40)
          have hgx : w6.heap.size ≠ g := by have := HL5.out.lt; have := hb6.size; omega
          clear CI hb6 HT5 HL5 HB5 c0 c1
          go_wp2_with fail
          generalize w6.alloc (.cells #[.int .i64 x0, .int .i64 x1] 40) = w7 at HT6 HL6 HB6 HBX ⊢
          generalize w6.heap.size = g6 at HBX hgx ⊢
          have c0 := (HCE.out w7 HB6.out).1
          have c1 := (HCE.out w7 HB6.out).2
          have d0 := HBX.out.2.1
          have d1 := HBX.out.2.2
          have E : ∀ W, (Op.equalIn 10000 40 (.agg #[.int .i64 x0, .int .i64 x1]) (.agg #[.int .i64 x0, .int .i64 x1])).run Try.prog W = .ok true W := fun W => by rw [eqX]; simp
          go_quiet (fail)
          have HT7 := Lib.hid (HT6.out.below (bdrewN (brefl w7) nq))
          have HL7 : Hid (Lpm.Tab (w7.drewN nq) g t) := Lib.hid (HL6.out.below (bdrewN (brefl w7) nq) HL6.out.lt)
          have HB7 := Lib.hid (bdrewN HB6.out nq)
          have HBX7 := Lib.hid (HBX.out.drewN nq)
          clear c0 c1 d0 d1 HT6 HL6 HB6 HBX
          generalize w7.drewN nq = w8 at HT7 HL7 HB7 HBX7 ⊢
          have d0 := HBX7.out.2.1
          have CS := Lib.hid (Lpm.set_any g t ⟨x0, 16, hop⟩ w8 HL7.out HG.out.1)
          by_cases hh : 0 ≤ hop ∧ hop ≤ 9
          · have hs0 : Lpm.setC t ⟨x0, 16, hop⟩ = 0 := setC_ok (code16 HGD.out.1 hop) hh (by have := HG.out.2; omega)
            have HL2 := Lib.hid (setN_len hs0)
            have hff := found HG.out.1 HGD.out.1 hs0
            have HG2 := Lib.hid (HG.out.1.set ⟨x0, 16, hop⟩)
            rw [hs0, show Cidr.er 0 = .nilIface from rfl] at CS
            have CF := Lib.hid (fun W (hT : Lpm.Tab W g (Lpm.setN t ⟨x0, 16, hop⟩)) => Lpm.find_all g x0 _ W hT HG2.out)
            rw [hff.1, hff.2, show Cidr.er 0 = .nilIface from rfl] at CF
            have CF : Hid (∀ W, Lpm.Tab W g (Lpm.setN t ⟨x0, 16, hop⟩) → Calls Try.prog 12 #[.pointer (some ⟨g, 0, none⟩), .int .i64 x0] W fun e w' => e = .returned (.tuple #[.int .i64 hop, .int .i64 16, .nilIface]) ∧ Below W.heap.size W w') := CF
            generalize Lpm.setN t ⟨x0, 16, hop⟩ = t2 at CS CF HL2 HG2
            have v1 : (hop != hop) = false := by simp
            clear hs0 hff hh
            go_wp2_with fail
            refine CS.out.mono ?_; rintro e w9 ⟨rfl, hl9, hg9⟩
            have HT9 := Lib.hid (HT7.out.more hg9 (fun j e => by injection e with e; rw [← e]; exact HXg.out) (fun j hj => ⟨.inl hj, Nat.lt_of_lt_of_le (HT7.out.xl j hj) hg9.size⟩))
            have HL9 := Lib.hid hl9
            have HB9 := Lib.hid (HB7.out.grown hg9 HB7.out.size (fun j e => by injection e with e; rw [← e]; exact HGW.out))
            have hbx9 := HBX7.out.more hg9 hgx
            have d0 := hbx9.2.1
            clear hl9 hg9 CS HT7 HL7 HB7 HBX7 hbx9
            go_wp2_with fail
            refine (CF.out w9 HL9.out).mono ?_; rintro e w10 ⟨rfl, hb10⟩
            have HT10 := Lib.hid (HT9.out.below hb10)
            have HL10 := Lib.hid (HL9.out.below hb10 HL9.out.lt)
            have HB10 := Lib.hid (bcall HB9.out hb10)
            have HG10 := Lib.hid (And.intro HG2.out (show t2.length ≤ (k + 1) + 1 by have h3 := HL2.out; have h4 := HG.out.2; omega))
            clear hb10 HT9 HL9 HB9 CF d0
            go_wp2_with fail
            go_roundw
            case rel => exact ⟨k + 1, h5, t2, by omega, by omega, by first | rfl | go_num, HT10, HL10, HG10, HF5, HB10⟩
            case measure => simp [vN]; omega
          · have hs0 : Lpm.setC t ⟨x0, 16, hop⟩ = 1 := setC_hop (code16 HGD.out.1 hop) hh
            rw [hs0, show Cidr.er 1 = .iface 50 (.int .i64 1) from rfl] at CS
            have I9 := Lib.hid (fun W => int_any hop 0 9 W false (in_false hh))
            clear hs0 hh
            go_wp2_with fail
            refine CS.out.mono ?_; rintro e w9 ⟨rfl, hl9, hg9⟩
            have HB9 := Lib.hid (HB7.out.grown hg9 HB7.out.size (fun j e => by injection e with e; rw [← e]; exact HGW.out))
            clear hl9 hg9 CS
            go_wp2_with fail
            refine (I9.out _).mono ?_; rintro e w10 ⟨rfl, rfl⟩
            go_wp2_with fail
            go_ret
            exact ⟨by first | rfl | simp, HB9.out⟩
        · have hcc : cc = 1 := by
            rcases hR with ⟨a1, a2, a3, a4⟩ | ⟨a1, _⟩ | ⟨a1, _⟩ | ⟨a1, _⟩
            · exact a3
            · exact absurd a1 hgd2
            · exact absurd a1 hgd2
            · exact absurd a1 hgd2
          rw [hcc, er_1]
          clear hR ht5 hk5 HT HL HB CO HF hcc
          by_cases hn0 : num x0
          · have I1 := Lib.hid (fun W => int_any x0 0 65535 W true (in_true hn0))
            have I2 := Lib.hid (fun W => int_any x1 0 65535 W false (in_false (fun hn1 => hgd2 ⟨hn0, hn1⟩)))
            clear hgd2 hn0
            go_wp2_with fail
            refine (I1.out _).mono ?_; rintro e w6 ⟨rfl, hw6⟩
            rw [hw6]
            clear hw6 w6
            go_wp2_with fail
            refine (I2.out _).mono ?_; rintro e w6 ⟨rfl, hw6⟩
            rw [hw6]
            clear hw6 w6
            go_wp2_with fail
            go_ret
            exact ⟨by first | rfl | simp, HB5.out⟩
          · have I1 := Lib.hid (fun W => int_any x0 0 65535 W false (in_false hn0))
            clear hgd2 hn0
            go_wp2_with fail
            refine (I1.out _).mono ?_; rintro e w6 ⟨rfl, hw6⟩
            rw [hw6]
            clear hw6 w6
            go_wp2_with fail
            go_ret
            exact ⟨by first | rfl | simp, HB5.out⟩
      · have u2 : decide ((k : Int) < 30) = false := decide_eq_false (by omega)
        go_wp2_with fail
        go_ret
        exact ⟨rfl, HB.out⟩
    · have u1 : decide ((k : Int) < (n : Int)) = false := decide_eq_false (by omega)
      go_wp2_with fail
      go_ret
      exact ⟨rfl, HB.out⟩

theorem reads : Try.f3.params.toList.all (fun t => Try.prog.readableRec t && decide (t < Try.prog.types.size)) = true := by kernel_rfl

theorem contract (H : Type) (enc : TypeId × Value → H) (W : World) (base : Nat) (args : Array Value) (ds gs : List (DataW H)) (before : List MemPlace)
    (hval : ∀ (j : Nat) t v, Try.f3.params[j]? = some t → args[j]? = some v → Value.okWide Try.prog W .any base t v)
    (hW : DataW.Whole enc Try.prog Try.f3.params.toList Rows.topLentSpec.vars false W args.toList ds gs before) :
    Calls Try.prog 3 args W fun e W' => ∃ v, e = .returned v ∧ Rows.topLentSpec.post enc Try.prog Try.f3 false true false false W args v W' := by
  have hW' := hW
  obtain ⟨p, q, hA0, hV, rfl, hfz, hnd⟩ := hW
  have hA : DataW.TrodAll enc Try.prog W 0 (fun _ => true) true Try.f3.params.toList args.toList ds p := hA0
  have hlt := hA.lt
  rw [Try.params3] at hA hval
  obtain ⟨v0, vs0, d0, ds0, p0, q0, hargs, rfl, rfl, h0, r0⟩ := trodAll_cons hA
  obtain ⟨v1, vs1, d1, ds1, p1, q1, hvs1, rfl, rfl, h1, r1⟩ := trodAll_cons r0
  obtain ⟨hvsn, rfl, rfl⟩ := trodAll_nil r1
  simp only [hvsn, hvs1] at hargs
  obtain rfl : args = #[v0, v1] := by cases args; simp_all
  obtain ⟨rfl, rfl⟩ := trodVars_none hV
  clear hA0
  obtain ⟨p0a, cap0, l0, rfl, i0, f0, e0⟩ := Go.Proofs.Ytlojehakifagbaa.Nat_.open_places (hval 0 22 v0 rfl rfl) h0 (fun x hx => hlt x (by simp [hx]))
  obtain ⟨a1, rfl, rfl, rfl, w1⟩ := open_int Try.underlying3 (hval 1 3 v1 rfl rfl) h1
  have b1 := bounds_int w1
  exact law_post 4 laid reads rfl Try.underlying4 rfl hW' ⟨rfl, rfl, rfl⟩ (core _ _ _ l0 a1 W rfl i0)

set_option maxRecDepth 100000 in
theorem lifted (os : Os) (started : os.Started) (H : Type) (enc : TypeId × Value → H) :
    ReturnsInHanded {} Try.checked os 3 .any (Rows.topLentSpec.pre6 enc Try.prog Try.f3 Rows.topLentRow.domain false) (Rows.topLentSpec.post enc Try.prog Try.f3 false true false false) := by
  refine returnsInHanded_of_change (C := Try.checked) own started (by kernel_rfl) Try.func3
    (ChangeSpec.witness6 (enc := enc) (C := Try.checked) false ⟨#[], #[.slice none 0 0, .int .i64 0], []⟩ 8 (by kernel_rfl) (by kernel_rfl) (by kernel_rfl) (by kernel_rfl)) ?_
  intro W base args ds gs before hval hW _ _
  exact contract H enc W base args ds gs before hval hW

theorem proved : Rows.TopLentSaid :=
  OpenClaim.holds_of_wide 3 Try.f3 rfl rfl rfl rfl rfl rfl rfl ⟨rfl, rfl, rfl, rfl, rfl⟩ rfl rfl rfl rfl rfl (by kernel_rfl) Try.func3 (by kernel_rfl)
    (of_decide_eq_true (by kernel_rfl)) (by unfold Func.isWrapper; first | (rw [if_pos (by decide +kernel)]; kernel_rfl) | (rw [if_neg (by decide +kernel)]; exact ⟨rfl, rfl⟩))
    (fun os started H enc _ => lifted os started H enc)
end Go.Proofs.Ytlojehakifagbaa.TopLentL
