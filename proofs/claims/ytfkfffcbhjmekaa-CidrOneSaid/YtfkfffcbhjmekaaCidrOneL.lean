/- One set of addresses has one form: made few again it is the same, in whatever order, and with one of its own in it: the law returns true for every input. No condition. -/
import Derived.Test.YtfkfffcbhjmekaaCidrLaw
namespace Go.Proofs.Ytfkfffcbhjmekaa.cidrOneP
open Go.ChangeShapes Go.WideShapes Go.ChangeAt Go.RowKit
open Go.Proofs.Ytfkfffcbhjmekaa.Kit Go.Proofs.Ytfkfffcbhjmekaa.App Go.Proofs.Ytfkfffcbhjmekaa.Cells Go.Proofs.Ytfkfffcbhjmekaa.Cidr Go.Proofs.Ytfkfffcbhjmekaa.CidrMath
set_option linter.unusedVariables false
set_option maxRecDepth 20000

theorem turn_one (l : List Pfx) (k : Nat) (x : Pfx) (h : l[k]? = some x) : (l.drop k).reverse = (l.drop (k + 1)).reverse ++ [x] := by
  have hk : k < l.length := by
    rcases Nat.lt_or_ge k l.length with h1 | h1
    · exact h1
    · rw [List.getElem?_eq_none h1] at h; cases h
  rw [List.drop_eq_getElem_cons hk, List.reverse_cons]
  rw [List.getElem?_eq_getElem hk] at h
  rw [Option.some.inj h]
theorem few_turned (l : List Pfx) (hl : ∀ x ∈ l, CidrMath.Good x) : few0 l.reverse = few0 l :=
  few0_same _ _ (fun x hx => hl x (List.mem_reverse.1 hx)) hl fun y => ⟨fun ⟨x, hx, h⟩ => ⟨x, List.mem_reverse.1 hx, h⟩, fun ⟨x, hx, h⟩ => ⟨x, List.mem_reverse.2 hx, h⟩⟩
theorem few_own (l : List Pfx) (hl : ∀ x ∈ l, CidrMath.Good x) (x : Pfx) (hx : x ∈ l) : few0 (few0 l ++ [x]) = few0 l :=
  few0_same _ _ (fun z hz => by
    rcases List.mem_append.1 hz with h | h
    · exact few0_good l z h
    · rw [List.mem_singleton.1 h]; exact hl x hx) hl fun y => by
    rw [cov_append, cov_one, few0_cov l hl]
    exact ⟨fun h => h.elim id (fun h => ⟨x, hx, h⟩), .inl⟩
abbrev Law (p : Option Addr) (cap : Nat) (l : List Pfx) (a : Int) (w : World) : Prop := Calls Try.prog 4 #[.slice p l.length cap, .int .i64 a] w fun e w' => e = .returned (.bool true) ∧ Below w.heap.size w w'
set_option maxHeartbeats 1000000 in
theorem law_bad (p : Option Addr) (cap : Nat) (l : List Pfx) (a : Int) (w : World) (hc : CI lay w p cap l) (h : wrong l ≠ 0) : Law p cap l a w := by
  have FA := Lib.hid (fact_any w)
  have M1 := Lib.hid (fun W (hw : Below w.heap.size w W) => fewest_bad p cap l.length l W rfl (hc.below hw) _ rfl h)
  obtain ⟨c, hcc⟩ : ∃ c, wrong l = c := ⟨_, rfl⟩
  rw [hcc] at M1
  clear hc h hcc
  unfold Law
  go_enter Try.func4, Try.ntmps4
  go_wp2_with fail
  refine FA.out.mono ?_; rintro e w1 ⟨rfl, hb1⟩
  go_wp2_with fail
  refine (M1.out _ hb1).mono ?_; rintro e w2 ⟨rfl, hb2⟩
  have hB2 := bcall hb1 hb2
  go_wp2_with fail
  go_ret
  exact ⟨rfl, hB2⟩
set_option maxHeartbeats 4000000 in
theorem law_good (p : Option Addr) (cap : Nat) (l : List Pfx) (a : Int) (w : World) (hc : CI lay w p cap l) (h : wrong l = 0) : Law p cap l a w := by
  have FA := Lib.hid (fact_any w)
  have M1 := Lib.hid (fun W (hw : Below w.heap.size w W) => fewest_good p cap l.length l W rfl (hc.below hw) h)
  obtain ⟨hl32, hg⟩ := (wrong_zero l).1 h
  have hwt : wrong l.reverse = 0 := (wrong_zero _).2 ⟨by rw [List.length_reverse]; exact hl32, fun x hx => hg x (List.mem_reverse.1 hx)⟩
  have hlen := few0_len l hg
  have hwm : wrong (few0 l) = 0 := (wrong_zero _).2 ⟨by omega, few0_good l⟩
  have hwx := fun x (hx : x ∈ l) (h31 : (few0 l).length ≤ 31) => (wrong_zero (few0 l ++ [x])).2 ⟨by rw [List.length_append, List.length_singleton]; omega, fun z hz => by
    rcases List.mem_append.1 hz with h | h
    · exact few0_good l z h
    · rw [List.mem_singleton.1 h]; exact hg x hx⟩
  have hox := few_own l hg
  obtain ⟨n, hn⟩ : ∃ n, l.length = n := ⟨_, rfl⟩
  have F2 := fun q c W (hq : CI lay W q c l.reverse) => fewest_good q c n l.reverse W (by rw [List.length_reverse]; exact hn.symm) hq hwt
  rw [few_turned l hg] at F2
  have hag := few0_again l hg
  obtain ⟨m, hm⟩ : ∃ m, few0 l = m := ⟨_, rfl⟩
  rw [hm] at M1 F2 hlen hwm hwx hox hag
  obtain ⟨r, hr⟩ : ∃ r, m.length = r := ⟨_, rfl⟩
  have F3 := fun q c W (hq : CI lay W q c m) => fewest_good q c r m W hr.symm hq hwm
  rw [hag] at F3
  have F4 := fun x (hx : x ∈ l) (h31 : r ≤ 31) q c W (hq : CI lay W q c (m ++ [x])) => fewest_good q c (r + 1) (m ++ [x]) W (by rw [List.length_append, hr]; rfl) hq (hwx x hx (by rw [hr]; exact h31))
  have F4' : Hid (∀ x (hx : x ∈ l) (h31 : r ≤ 31) q c W (hq : CI lay W q c (m ++ [x])), Calls Try.prog 8 #[.slice q ((r + 1 : Nat)) c] W fun e w' => ∃ v, e = .returned (.tuple #[v, .nilIface]) ∧ OC lay 32 w' W.heap.size v m ∧ Below W.heap.size W w') := fun x hx h31 q c W hq => by
    have h := F4 x hx h31 q c W hq
    rw [hox x hx] at h
    exact h
  have EQ := Lib.hid (fun p q c c2 W (h1 : CI lay W p c m) (h2 : CI lay W q c2 m) => prefixes_any p q c c2 r r m m W hr.symm hr.symm h1 h2 true (by simp))
  have HF2 := Lib.hid F2
  have HF3 := Lib.hid F3
  unfold Law
  rw [hn, hr] at hlen
  rw [hn] at M1 hl32 ⊢
  have HN := Lib.hid hn
  have HR := Lib.hid hr
  have HCI := Lib.hid hc
  clear h hg hm hn hr hc hwt hwm hwx hox hag F2 F3 F4
  have r0 : IntKind.i64.wrap ((n : Int) - 1) = (n : Int) - 1 := by rw [IntKind.wrap_i64]; omega
  go_enter Try.func4, Try.ntmps4
  go_wp2_with fail
  refine FA.out.mono ?_; rintro e w1 ⟨rfl, hb1⟩
  go_wp2_with fail
  refine (M1.out _ hb1).mono ?_; rintro e w2 ⟨v, rfl, hown, hb2⟩
  have hB2 := bcall hb1 hb2
  obtain ⟨q, c, rfl, hCm⟩ := hown.form
  rw [HR.out]
  have HCm := Lib.hid hCm
  have hs2 := hB2.size
  clear hown M1 FA hb1 hb2 hCm
  go_wp2_with fail
  go_loopw [8, 9] (fun tv iv wr => ∃ (k : Nat), iv = .int .i64 ((k : Int) - 1) ∧ k ≤ n ∧ OC lay 32 wr w2.heap.size tv (l.drop k).reverse ∧ Below w2.heap.size w2 wr) (fun _ i _ => (intOf i + 1).toNat)
  case atStart => exact ⟨n, rfl, Nat.le_refl _, by rw [List.drop_eq_nil_of_le (by rw [HN.out]; exact Nat.le_refl _)]; exact OC.nil _ _ _ _, brefl w2⟩
  case round =>
    obtain ⟨k, rfl, hk, hown, hB⟩ := hrel
    have hBs := hB.size
    cases k with
    | succ k =>
      have e1 : (((k + 1 : Nat) : Int) - 1) = (k : Int) := by omega
      rw [e1]
      have hkl : k < l.length := by rw [HN.out]; omega
      obtain ⟨b, off, rfl, hbw, hcell⟩ := HCI.out.2.2 (by omega)
      obtain ⟨x, hx⟩ : ∃ x, l[k]? = some x := ⟨_, List.getElem?_eq_getElem hkl⟩
      have hbk : wr.heap[b]? = w.heap[b]? := (hB.block b (by omega)).trans (hB2.block b hbw)
      have x0 : wr.cell? ⟨b, off + k * 2, none⟩ = some (.int .i64 x.adr) := (World.cell?_of_block (w := w) (a := ⟨b, off + k * 2, none⟩) hbk).trans (hcell k x hx 0 _ rfl)
      have x1 : wr.cell? ⟨b, off + k * 2 + 1, none⟩ = some (.int .i64 x.len) := (World.cell?_of_block (w := w) (a := ⟨b, off + k * 2 + 1, none⟩) hbk).trans (hcell k x hx 1 _ rfl)
      have HT := Lib.hid (turn_one l k x hx)
      have hdl : (l.drop (k + 1)).reverse.length ≤ 32 := by rw [List.length_reverse, List.length_drop, HN.out]; omega
      have t0 : decide ((k : Int) ≥ 0) = true := decide_eq_true (by omega)
      have i0 : (0 : Int) ≤ (k : Int) := by omega
      have i1 : (k : Int) < (n : Int) := by omega
      have r1 : IntKind.i64.wrap ((k : Int) - 1) = (k : Int) - 1 := by rw [IntKind.wrap_i64]; omega
      generalize (l.drop (k + 1)).reverse = T at hown HT hdl
      clear hcell hx hbk hkl e1
      go_wp2_with (at_builtin
                   refine wp_appC ty rfl (.tmp 35) (.tmp 40) rfl w2.heap.size _ T (some ⟨wr.heap.size, 0, none⟩) 1 1 [x] rfl (hown.alloc _) rfl rfl (CI.one lay wr _ _) (by rw [List.length_singleton]; omega) (Nat.le_trans hBs (by simp)) ?_
                   intro v6 w6 hown6 hg6 hat6
                   have hB6 : Below w2.heap.size w2 w6 := below_oneC hB hBs _ hown hg6
                   have HO6 := Lib.hid hown6
                   clear hat6 hg6 hown6)
      go_roundw
      case rel => exact ⟨k, by first | rfl | go_num, by omega, by rw [HT.out]; exact HO6.out, hB6⟩
      case measure => first | (simp [intOf]; done) | (simp [intOf]; omega)
    | zero =>
      obtain ⟨qt, ct, rfl, hCt⟩ := hown.form
      have hlr : (l.drop 0).reverse.length = n := by rw [List.drop_zero, List.length_reverse]; exact HN.out
      rw [hlr]
      have HCt := Lib.hid (show CI lay wr qt ct l.reverse from by rw [List.drop_zero] at hCt; exact hCt)
      have hBw : Below w.heap.size w wr := hB2.trans (hB.mono hs2)
      clear hown hCt hlr
      go_wp2_with fail
      refine (HF2.out _ _ _ HCt.out).mono ?_; rintro e w3 ⟨va, rfl, howna, hb3⟩
      have hB3 : Below w2.heap.size w2 w3 := hB.trans (hb3.mono hBs)
      obtain ⟨qa, ca, rfl, hCa⟩ := howna.form
      rw [HR.out]
      have HCa := Lib.hid hCa
      have hs3 := hB3.size
      clear howna hCa hb3
      go_wp2_with fail
      refine (HF3.out _ _ _ (HCm.out.below hB3)).mono ?_; rintro e w4 ⟨vb, rfl, hownb, hb4⟩
      have hB4 : Below w2.heap.size w2 w4 := hB3.trans (hb4.mono hs3)
      obtain ⟨qb, cb, rfl, hCb⟩ := hownb.form
      rw [HR.out] at hownb ⊢
      have HCb := Lib.hid hCb
      have HOb := Lib.hid hownb
      have HB4 := Lib.hid hb4
      clear hownb hCb hb4
      go_wp2_with fail
      refine (EQ.out _ _ _ _ _ (HCa.out.below HB4.out) (HCm.out.below hB4)).mono ?_; rintro e w5 ⟨rfl, u5, rfl⟩
      go_wp2_with fail
      refine (EQ.out _ _ _ _ _ (HCb.out.below (below_drewN (brefl _) u5)) (HCm.out.below (below_drewN hB4 u5))).mono ?_; rintro e w6 ⟨rfl, u6, rfl⟩
      have hBE := Lib.hid (hB2.trans (hB4.mono hs2))
      have hs4 := hB4.size
      by_cases hin : 0 ≤ a ∧ a ≤ (n : Int) - 1
      · have IN := Lib.hid (fun W => in_any a 0 ((n : Int) - 1) W true (in_iff _ _ _ _ ⟨fun _ => hin, fun _ => rfl⟩))
        obtain ⟨k, rfl⟩ := Int.eq_ofNat_of_zero_le hin.1
        have hkn : k < n := by have := hin.2; omega
        by_cases h32 : r = 32
        · have t0 : ((r : Int) == 32) = true := by simp; omega
          clear hin
          go_wp2_with fail
          refine (IN.out _).mono ?_; rintro e w7 ⟨rfl, rfl⟩
          go_wp2_with fail
          go_ret
          exact ⟨rfl, below_drewN hBE.out (u5 + u6)⟩
        · have t0 : ((r : Int) == 32) = false := by simp; omega
          have hkl : k < l.length := by rw [HN.out]; exact hkn
          obtain ⟨b, off, rfl, hbw, hcell⟩ := HCI.out.2.2 (by omega)
          obtain ⟨x, hx⟩ : ∃ x, l[k]? = some x := ⟨_, List.getElem?_eq_getElem hkl⟩
          have hbk : w4.heap[b]? = w.heap[b]? := (hB4.block b (by omega)).trans (hB2.block b hbw)
          have x0 : w4.cell? ⟨b, off + k * 2, none⟩ = some (.int .i64 x.adr) := (World.cell?_of_block (w := w) (a := ⟨b, off + k * 2, none⟩) hbk).trans (hcell k x hx 0 _ rfl)
          have x1 : w4.cell? ⟨b, off + k * 2 + 1, none⟩ = some (.int .i64 x.len) := (World.cell?_of_block (w := w) (a := ⟨b, off + k * 2 + 1, none⟩) hbk).trans (hcell k x hx 1 _ rfl)
          have FX := Lib.hid (F4'.out x (List.mem_of_getElem? hx) (by omega))
          clear hin hcell hx hbk hkl
          go_wp2_with fail
          refine (IN.out _).mono ?_; rintro e w7 ⟨rfl, rfl⟩
          go_wp2_with (at_builtin
                       refine wp_appC ty rfl (.tmp 82) (.tmp 87) rfl w3.heap.size _ m (some ⟨(w4.drewN (u5 + u6)).heap.size, 0, none⟩) 1 1 [x] rfl ((show OC lay 32 (w4.drewN (u5 + u6)) w3.heap.size (.slice qb r cb) m from HOb.out).alloc _) rfl rfl (CI.one lay (w4.drewN (u5 + u6)) x _) (by rw [HR.out, List.length_singleton]; omega) (Nat.le_trans HB4.out.size (by simp [World.drewN])) ?_
                       intro v8 w8 hown8 hg8 hat8
                       have hB8 : Below w3.heap.size w4 w8 := below_oneC (W := w4) (w := w4.drewN (u5 + u6)) (below_drewN (Below.refl _ _) (u5 + u6)) HB4.out.size _ HOb.out hg8
                       obtain ⟨q8, c8, hv8, hC8⟩ := hown8.form
                       rw [List.length_append, HR.out] at hv8
                       subst hv8
                       have HC8 := Lib.hid hC8
                       clear hat8 hg8 hown8 hC8)
          refine (FX.out _ _ _ HC8.out).mono ?_; rintro e w9 ⟨vc, rfl, hownc, hb9⟩
          obtain ⟨qc, cc, rfl, hCc⟩ := hownc.form
          rw [HR.out]
          have HCc := Lib.hid hCc
          have hB9 : Below w2.heap.size w2 w9 := (hB4.trans (hB8.mono hs3)).trans (hb9.mono (by have := hB8.size; omega))
          clear hownc hCc
          go_wp2_with fail
          refine (EQ.out _ _ _ _ _ HCc.out (HCm.out.below hB9)).mono ?_; rintro e wa ⟨rfl, u7, rfl⟩
          go_wp2_with fail
          go_ret
          exact ⟨rfl, below_drewN (hB2.trans (hB9.mono hs2)) u7⟩
      · have IN := Lib.hid (fun W => in_any a 0 ((n : Int) - 1) W false (in_iff _ _ _ _ ⟨fun h => by simp at h, fun h => absurd h hin⟩))
        clear hin
        go_wp2_with fail
        refine (IN.out _).mono ?_; rintro e w7 ⟨rfl, rfl⟩
        go_wp2_with fail
        go_ret
        exact ⟨rfl, below_drewN hBE.out (u5 + u6)⟩
theorem law_any (p : Option Addr) (cap : Nat) (l : List Pfx) (a : Int) (w : World) (hc : CI lay w p cap l) : Law p cap l a w := by
  by_cases h : wrong l = 0
  · exact law_good p cap l a w hc h
  · exact law_bad p cap l a w hc h

theorem reads : Try.f4.params.toList.all (fun t => Try.prog.readableRec t && decide (t < Try.prog.types.size)) = true := by kernel_rfl

theorem contract (H : Type) (enc : TypeId × Value → H) (W : World) (base : Nat) (args : Array Value) (ds gs : List (DataW H)) (before : List MemPlace)
    (hval : ∀ (j : Nat) t v, Try.f4.params[j]? = some t → args[j]? = some v → Value.okWide Try.prog W .any base t v)
    (hW : DataW.Whole enc Try.prog Try.f4.params.toList Rows.cidrOneSpec.vars false W args.toList ds gs before) :
    Calls Try.prog 4 args W fun e W' => ∃ v, e = .returned v ∧ Rows.cidrOneSpec.post enc Try.prog Try.f4 false true false false W args v W' := by
  have hW' := hW
  obtain ⟨p, q, hA0, hV, rfl, hfz, hnd⟩ := hW
  have hA : DataW.TrodAll enc Try.prog W 0 (fun _ => true) true Try.f4.params.toList args.toList ds p := hA0
  have hlt := hA.lt
  rw [Try.params4] at hA hval
  obtain ⟨v0, vs0, d0, ds0, p0, q0, hargs, rfl, rfl, h0, r0⟩ := trodAll_cons hA
  obtain ⟨v1, vs1, d1, ds1, p1, q1, hvs1, rfl, rfl, h1, r1⟩ := trodAll_cons r0
  obtain ⟨hvsn, rfl, rfl⟩ := trodAll_nil r1
  simp only [hvsn, hvs1] at hargs
  obtain rfl : args = #[v0, v1] := by cases args; simp_all
  obtain ⟨rfl, rfl⟩ := trodVars_none hV
  clear hA0
  obtain ⟨p0a, cap0, l0, rfl, i0, f0, e0⟩ := Go.Proofs.Ytfkfffcbhjmekaa.Cidr.open_prefixes (hval 0 22 v0 rfl rfl) h0 (fun x hx => hlt x (by simp [hx]))
  obtain ⟨a1, rfl, rfl, rfl, w1⟩ := open_int Try.underlying3 (hval 1 3 v1 rfl rfl) h1
  have b1 := bounds_int w1
  exact law_post 4 laid reads rfl Try.underlying4 rfl hW' ⟨rfl, rfl, rfl⟩ (law_any p0a cap0 l0 a1 W i0)

set_option maxRecDepth 100000 in
theorem lifted (os : Os) (started : os.Started) (H : Type) (enc : TypeId × Value → H) :
    ReturnsInHanded {} Try.checked os 4 .any (Rows.cidrOneSpec.pre6 enc Try.prog Try.f4 Rows.cidrOneRow.domain false) (Rows.cidrOneSpec.post enc Try.prog Try.f4 false true false false) := by
  refine returnsInHanded_of_change (C := Try.checked) own started (by kernel_rfl) Try.func4
    (ChangeSpec.witness6 (enc := enc) (C := Try.checked) false ⟨#[], #[.slice none 0 0, .int .i64 0], []⟩ 8 (by kernel_rfl) (by kernel_rfl) (by kernel_rfl) (by kernel_rfl)) ?_
  intro W base args ds gs before hval hW _ _
  exact contract H enc W base args ds gs before hval hW

theorem proved : Rows.CidrOneSaid :=
  OpenClaim.holds_of_wide 4 Try.f4 rfl rfl rfl rfl rfl rfl rfl ⟨rfl, rfl, rfl, rfl, rfl⟩ rfl rfl rfl rfl rfl (by kernel_rfl) Try.func4 (by kernel_rfl)
    (of_decide_eq_true (by kernel_rfl)) (by unfold Func.isWrapper; first | (rw [if_pos (by decide +kernel)]; kernel_rfl) | (rw [if_neg (by decide +kernel)]; exact ⟨rfl, rfl⟩))
    (fun os started H enc _ => lifted os started H enc)

end Go.Proofs.Ytfkfffcbhjmekaa.cidrOneP
