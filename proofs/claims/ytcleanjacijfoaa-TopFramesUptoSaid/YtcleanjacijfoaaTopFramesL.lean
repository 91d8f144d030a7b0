/- Bit-stuffed frames and reassembled stream fragments restore what was sent: the law returns true wherever what it reads is of bulk at most 1048576 (the upto form; without the bound an append may pass the greatest slice). -/
import Derived.Test.YtcleanjacijfoaaStuff5
import Derived.Test.YtcleanjacijfoaaRowArg
import Derived.Test.YtcleanjacijfoaaFJoin5
import Derived.Test.YtcleanjacijfoaaFitParts
import Derived.Test.YtcleanjacijfoaaMux3
import Derived.Test.YtcleanjacijfoaaTopFramesM
import Derived.Test.YtcleanjacijfoaaApt
import Derived.Deep.RegionHeld
import Derived.OrdersHeld
namespace Go.Proofs.Ytcleanjacijfoaa.TopFramesL
open Go.ChangeShapes Go.WideShapes Go.ChangeAt Go.RowKit
open Go.Proofs.Ytcleanjacijfoaa.Kit Go.Proofs.Ytcleanjacijfoaa.App Go.Proofs.Ytcleanjacijfoaa.Err Go.Proofs.Ytcleanjacijfoaa.StuffMath
set_option linter.unusedVariables false
set_option maxRecDepth 20000
set_option maxHeartbeats 8000000

/-- The rows so far that are not empty. -/
def full (ls : List (List Int)) : List (List Int) := ls.filter (fun r => decide (0 < r.length))
theorem full_snoc (ls : List (List Int)) (r : List Int) : full (ls ++ [r]) = if 0 < r.length then full ls ++ [r] else full ls := by
  unfold full
  rw [List.filter_append]
  by_cases h : 0 < r.length
  · rw [if_pos h, List.filter_cons_of_pos (by simpa using h), List.filter_nil]
  · rw [if_neg h, List.filter_cons_of_neg (by simpa using h), List.filter_nil, List.append_nil]
theorem full_len (ls : List (List Int)) (r : List Int) : (full (ls ++ [r])).length = (full ls).length + (if 0 < r.length then 1 else 0) := by
  rw [full_snoc]
  split
  · rw [List.length_append]; rfl
  · rfl
theorem take_snoc (ls : List (List Int)) (k : Nat) (h : k < ls.length) : ls.take (k + 1) = ls.take k ++ [ls[k]?.getD []] := by
  rw [List.take_succ_eq_append_getElem h, List.getElem?_eq_getElem h]; rfl
theorem framed_len : ∀ rs : List (List Int), (∀ r ∈ rs, r.length ≤ 200) → (framed rs).length ≤ 248 * rs.length := by
  intro rs
  induction rs with
  | nil => intro _; simp [framed]
  | cons r rs ih =>
    intro h
    have h1 := h r (by simp)
    have h2 := ih (fun x hx => h x (by simp [hx]))
    have h3 := (stf_len r 0 (by omega)).2
    have h4 : flg.length = 8 := rfl
    unfold framed
    simp only [List.length_append, List.length_cons, h4]
    omega
theorem mem_take {ls : List (List Int)} {k : Nat} (h : ∀ j : Nat, j < k → Stuff.bad (ls[j]?.getD []) = 0) : ∀ r ∈ ls.take k, Stuff.bad r = 0 := by
  intro r hr
  obtain ⟨j, hj, rfl⟩ := List.getElem_of_mem hr
  rw [List.length_take] at hj
  have := h j (by omega)
  rw [List.getElem?_eq_getElem (by omega)] at this
  rw [List.getElem_take]
  exact this
theorem flag_bad : ∀ rs : List (List Int), (∀ r ∈ rs, Stuff.bad r = 0) → binl (flg ++ framed rs) = true := by
  intro rs h
  have := framed_bits rs (fun r hr => (Stuff.bad_zero (h r hr)).2)
  unfold binl at *
  rw [List.all_append, this]
  rfl
/-- What holds ahead of row k: the bits so far. -/
structure At (w0 wr : World) (ls : List (List Int)) (k : Nat) (s : Value) : Prop where
  own : OwnI wr w0.heap.size s (flg ++ framed (ls.take k))
  ok : ∀ j : Nat, j < k → Stuff.bad (ls[j]?.getD []) = 0
  below : Below w0.heap.size w0 wr
theorem At.len {w0 wr : World} {ls : List (List Int)} {k : Nat} {s : Value} (h : At w0 wr ls k s) (hk : k ≤ ls.length) : (flg ++ framed (ls.take k)).length ≤ 8 + 248 * k := by
  have := framed_len (ls.take k) (fun r hr => (Stuff.bad_zero (mem_take h.ok r hr)).1)
  have h2 : (ls.take k).length = k := by rw [List.length_take]; omega
  have h4 : flg.length = 8 := rfl
  rw [List.length_append, h4]
  rw [h2] at this
  omega

theorem law_any (p : Option Addr) (cap : Nat) (ls : List (List Int)) (s : ByteArray) (z : Int) (w : World) (h : Stuff.RowsI w p cap ls) (hsm : ls.length ≤ 1048576) :
    Calls Try.prog 6 #[.slice p ls.length cap, .string s, .int .i64 z] w fun e w' => e = .returned (.bool true) ∧ Below w.heap.size w w' := by
  have hlen := h.len_le
  have s1 := fun W : World => Stuff.stuff_ok (some ⟨W.heap.size, 0, none⟩) 1 1 [1] _ rfl (Stuff.lit_ints W [1] (by decide) (by decide)) (by decide)
  have e1 : stf 0 [1] = [1] := by decide
  have s2 := fun W : World => Stuff.lit_ints W [1] (by decide) (by decide)
  rw [e1] at s1
  simp only [List.length_cons, List.length_nil, Nat.reduceAdd, List.map_cons, List.map_nil, List.toArray] at s1 s2
  have S1 := Lib.hid s1
  have S2 := Lib.hid s2
  clear s1 s2 e1
  go_enter Try.func6, Try.ntmps6
  go_wp2_with fail
  refine (S1.out _).mono ?_; rintro e w1 ⟨v, rfl, ho, hb1⟩
  obtain ⟨q1, c1, rfl, hi⟩ := ho.form
  have hi2 := Ints.below (w' := w1.alloc (.cells #[.int .i64 1] 3)) hi (balloc (brefl w1) _)
  have hB1 : Below w.heap.size w w1 := bcall (balloc (brefl w) _) hb1
  clear hi ho hb1
  go_wp2_with fail
  refine (Stuff.ints_any q1 _ c1 1 1 1 [1] [1] _ rfl rfl hi2 (S2.out w1) true rfl).mono ?_; rintro e w2 ⟨rfl, hb2⟩
  have hB2 : Below w.heap.size w w2 := bcall (balloc hB1 _) hb2
  clear hi2 hb2 hB1 S1 S2
  go_wp2_with fail
  refine (Stuff.flag_any w2).mono ?_; rintro e w3 ⟨rfl, hf3, hb3⟩
  have hA0 : At w w3 ls 0 (.slice (some ⟨w2.heap.size, 0, none⟩) 8 8) := ⟨by simpa [framed] using Stuff.own_mono hf3 hB2.size, fun j hj => absurd hj (Nat.not_lt_zero _), bcall hB2 hb3⟩
  have HA0 := Lib.hid hA0
  clear hf3 hb3 hB2 hA0
  go_wp2_with fail
  go_loopw [9, 10, 11] (fun s9 mv i wr => ∃ k m : Nat, k ≤ ls.length ∧ m ≤ k ∧ i = .int .i64 (k : Int) ∧ mv = .int .i64 (m : Int) ∧ Hid (m = (full (ls.take k)).length) ∧ Hid (At w wr ls k s9)) (fun _ _ i _ => ls.length - (intOf i).toNat)
  case atStart => exact ⟨0, 0, Nat.zero_le _, Nat.zero_le _, rfl, rfl, Lib.hid rfl, HA0⟩
  case round =>
    clear HA0
    obtain ⟨k, m, hk, hmk, rfl, rfl, HM, HA⟩ := hrel
    have hB := HA.out.below
    have hBs := hB.size
    by_cases hlt : k < ls.length
    · obtain ⟨b, off, rfl, hbw, hc⟩ := h.2.2 (by omega)
      obtain ⟨q, c, hck, hir⟩ := hc k hlt
      have cellAt := Lib.hid (fun W (hW : Below w.heap.size w W) => (hW.cell (p := ⟨b, off + k, none⟩) hbw).trans hck)
      have hc0 := cellAt.out wr hB
      have TK := Lib.hid (take_snoc ls k hlt)
      obtain ⟨r, hr⟩ : ∃ r, ls[k]?.getD [] = r := ⟨_, rfl⟩
      rw [hr] at hc0 hir TK cellAt
      have Hr := Lib.hid hr
      have hlr := hir.len_le
      have HI := Lib.hid hir
      clear hc hck hr hir h
      by_cases hbd : Stuff.bad r = 0
      · have S := Lib.hid (Stuff.stuff_ok q c r.length r wr rfl (HI.out.below hB) hbd)
        have hol := HA.out.len hk
        have hsl := (stf_len r 0 (by omega)).2
        have hrl := (Stuff.bad_zero hbd).1
        have OK' := Lib.hid (show ∀ j : Nat, j < k + 1 → Stuff.bad (ls[j]?.getD []) = 0 from fun j hj => by
          by_cases e : j = k
          · rw [e, Hr.out]; exact hbd
          · exact HA.out.ok j (by omega))
        clear hbd
        go_wp2_with fail
        refine S.out.mono ?_; rintro e w2 ⟨v, rfl, ho2, hb2⟩
        obtain ⟨p2, c2, rfl, hi2⟩ := ho2.form
        have hlm := hi2.len_le
        have hB2 := hB.trans (hb2.mono hBs)
        have hB2s := hB2.size
        have o2 := HA.out.own.below hb2
        have ES := Lib.hid (framed_snoc (ls.take k) r)
        have FS := Lib.hid (full_len (ls.take k) r)
        rw [← TK.out] at ES FS
        clear HA ho2 S TK
        obtain ⟨X, hX⟩ : ∃ X, flg ++ framed (ls.take k) = X := ⟨_, rfl⟩
        obtain ⟨m2, hm⟩ : ∃ m2, stf 0 r = m2 := ⟨_, rfl⟩
        have EX := Lib.hid (show flg ++ framed (ls.take (k + 1)) = X ++ m2 ++ flg by rw [ES.out, ← hX, ← hm]; simp)
        rw [hX] at o2 hol
        rw [hm] at hi2 hsl hlm
        rw [hm]
        clear hX hm ES
        obtain ⟨n, hn⟩ : ∃ n, m2.length = n := ⟨_, rfl⟩
        have HN : Hid (n = m2.length) := Lib.hid hn.symm
        rw [hn] at hlm hsl ⊢
        obtain ⟨rn, hrn⟩ : ∃ rn, r.length = rn := ⟨_, rfl⟩
        rw [hrn] at hc0 hlr cellAt hrl hsl FS
        clear hrn
        go_wp2_with (at_builtin
                     refine wp_app rfl (.tmp 55) (.tmp 56) rfl w.heap.size _ X p2 c2 n m2 rfl o2 rfl HN.out hi2 (by omega) hB2s ?_
                     intro v4 w3 o3 hg3 hat3
                     have hB3 : Below w.heap.size w w3 := below_app hB2 o2 hg3 hB2s
                     clear hg3 hat3 o2)
        refine (Stuff.flag_any w3).mono ?_; rintro e w4 ⟨rfl, hf4, hb4⟩
        have hB4 := hB3.trans (hb4.mono hB3.size)
        have hB4s := hB4.size
        have o4 := o3.below hb4
        obtain ⟨pf, cf, ef, hif⟩ := hf4.form
        injection ef with e1 e2 e3
        subst e1; subst e3
        clear e2 hf4 o3
        have h8 : flg.length = 8 := rfl
        by_cases h0 : 0 < rn
        · have t0 : decide ((0 : Int) < (rn : Int)) = true := decide_eq_true (by omega)
          have FY : Hid (m + 1 = (full (ls.take (k + 1))).length) := Lib.hid (by rw [FS.out, if_pos h0, ← HM.out])
          go_wp2_with (at_builtin
                       refine wp_app rfl (.tmp 58) (.tmp 59) rfl w.heap.size _ (X ++ m2) (some ⟨w3.heap.size, 0, none⟩) 8 8 flg rfl o4 rfl h8.symm hif (by rw [List.length_append, ← HN.out, h8]; omega) hB4s ?_
                       intro v5 w5 o5 hg5 hat5
                       have hB5 : Below w.heap.size w w5 := below_app hB4 o4 hg5 hB4s
                       have hc5 := cellAt.out w5 hB5
                       clear hg5 hat5 o4)
          go_roundw
          case rel => exact ⟨k + 1, m + 1, by omega, by omega, by first | rfl | go_num, by first | rfl | go_num, FY, ⟨by rw [EX.out]; exact o5, OK'.out, hB5⟩⟩
          case measure => simp [intOf]; omega
        · have t0 : decide ((0 : Int) < (rn : Int)) = false := decide_eq_false (by omega)
          have FY : Hid (m = (full (ls.take (k + 1))).length) := Lib.hid (by rw [FS.out, if_neg h0, ← HM.out]; rfl)
          go_wp2_with (at_builtin
                       refine wp_app rfl (.tmp 58) (.tmp 59) rfl w.heap.size _ (X ++ m2) (some ⟨w3.heap.size, 0, none⟩) 8 8 flg rfl o4 rfl h8.symm hif (by rw [List.length_append, ← HN.out, h8]; omega) hB4s ?_
                       intro v5 w5 o5 hg5 hat5
                       have hB5 : Below w.heap.size w w5 := below_app hB4 o4 hg5 hB4s
                       have hc5 := cellAt.out w5 hB5
                       clear hg5 hat5 o4)
          go_roundw
          case rel => exact ⟨k + 1, m, by omega, by omega, by first | rfl | go_num, by first | rfl | go_num, FY, ⟨by rw [EX.out]; exact o5, OK'.out, hB5⟩⟩
          case measure => simp [intOf]; omega
      · have S := Lib.hid (Stuff.stuff_bad q c r.length r wr rfl (HI.out.below hB) (Stuff.bad r) rfl hbd)
        clear hbd
        go_wp2_with fail
        refine S.out.mono ?_; rintro e w2 ⟨rfl, rfl⟩
        go_wp2_with fail
        go_ret
        exact ⟨rfl, hB⟩
    · obtain rfl : k = ls.length := by omega
      have hol := HA.out.len hk
      have FB := Lib.hid (flag_bad (ls.take ls.length) (mem_take HA.out.ok))
      obtain ⟨p4, c4, rfl, hi4⟩ := HA.out.own.form
      rw [List.take_length] at hi4 hol FB HM
      rw [List.take_length]
      have FF := Lib.hid (frames_framed ls)
      obtain ⟨X, hX⟩ : ∃ X, flg ++ framed ls = X := ⟨_, rfl⟩
      rw [hX] at hi4 hol FB FF
      rw [hX]
      clear hX HA h
      have hlx := hi4.len_le
      by_cases hx : X.length ≤ 200
      · have S := Lib.hid (Stuff.frames_ok p4 c4 X.length X wr rfl hi4 (Stuff.bad_of hx FB.out))
        obtain ⟨xn, hxn⟩ : ∃ xn, X.length = xn := ⟨_, rfl⟩
        rw [hxn] at hlx hol hx S ⊢
        have t9 : decide ((xn : Int) ≤ 200) = true := decide_eq_true (by omega)
        clear hxn
        go_wp2_with fail
        refine S.out.mono ?_; rintro e w2 ⟨v, rfl, ho2, hb2⟩
        rw [FF.out] at ho2
        have HB2 := Lib.hid (hB.trans (hb2.mono hBs))
        obtain ⟨p2, c2, rfl, hr2⟩ := ho2.form
        have hfl : (ls.filter (fun r => decide (0 < r.length))).length = m := HM.out.symm
        rw [hfl]
        have u9 : ((m : Int) != (m : Int)) = false := by simp
        clear ho2 hr2 S hb2 hB hBs hol hi4 hfl
        by_cases hcz : Part.cutBad s z = 0
        · obtain ⟨hs200, n, rfl, hn1, hn2, hn4⟩ := Part.cutBad_zero hcz
          have CU := Lib.hid (fun W => Part.fcut_some s n W hs200 hn1 hn2 hn4)
          have HS := Lib.hid hs200
          have HN1 := Lib.hid hn1
          obtain ⟨mm, hmm⟩ : ∃ mm, Part.more s n = mm := ⟨_, rfl⟩
          have HMM := Lib.hid hmm
          rw [hmm] at hn4
          have hpl : (Part.parts s n).length = mm + 1 := by rw [Part.parts_len, hmm]
          have HPL := Lib.hid hpl
          have HT0 := Lib.hid (show Mux.Tf s n (fun _ => 0) (mm + 1) by rw [← hmm]; exact Mux.Tf.start s n)
          clear hcz hpl hmm
          go_wp2_with fail
          refine (CU.out _).mono ?_; rintro e w6 ⟨v6, rfl, ho6, hb6⟩
          obtain ⟨pp, cp, rfl, hci6⟩ := ho6.form
          obtain ⟨bp, op, rfl, hbp, hcell⟩ := hci6.2.2 (by rw [HPL.out]; omega)
          have HCI := Lib.hid hci6
          have HCELL := Lib.hid hcell
          have HBP := Lib.hid hbp
          have HB6 := Lib.hid (bcall HB2.out hb6)
          rw [HPL.out]
          clear CU ho6 hci6 hb6 HB2 hcell hbp
          go_wp2_with fail
          refine (Mux.new_any _).mono ?_; rintro e w7 ⟨rfl, hE7, hb7⟩
          obtain ⟨g, hg⟩ : ∃ g, w6.heap.size = g := ⟨_, rfl⟩
          rw [hg] at hE7 ⊢
          have HE7 := Lib.hid (show Mux.Ends w7 g (fun _ => 0) (fun _ => 0) from hE7)
          have HB7 := Lib.hid (bcall HB6.out hb7)
          have HK7 := Lib.hid hb7
          have HG : Hid (w.heap.size ≤ g) := Lib.hid (by rw [← hg]; exact HB6.out.size)
          have HBG : Hid (bp < g) := Lib.hid (by rw [← hg]; exact HBP.out)
          have HG6 := Lib.hid hg
          have t41 : ((mm : Int) + 1 - 1) = (mm : Int) := by omega
          clear hE7 hb7 hg
          go_wp2_with fail
          go_loopw [18] (fun iv wr => ∃ (j : Nat) (d : Nat → Nat), j ≤ mm + 1 ∧ iv = .int .i64 ((j : Int) - 1) ∧ Hid (Mux.Ends wr g d (fun _ => 0)) ∧ Hid (Mux.Tf s n d j) ∧ Hid (w7.grownBy wr (some g))) (fun i _ => (intOf i + 1).toNat)
          case atStart => exact ⟨mm + 1, _, Nat.le_refl _, by first | rfl | go_num | (congr 1; omega), HE7, HT0, Lib.hid (grefl _ _)⟩
          case round =>
            clear HE7 HT0
            obtain ⟨j, d, hj, rfl, HE, HTF, HW⟩ := hrel
            by_cases hj0 : 0 < j
            · obtain ⟨k, rfl⟩ : ∃ k, j = k + 1 := ⟨j - 1, by omega⟩
              have hkm : k ≤ mm := by omega
              have hki : (k : Int) < (mm : Int) + 1 := by omega
              obtain ⟨mr, ee, hx, h1, h2, h3⟩ := Mux.parts_at s n k HN1.out (by rw [HMM.out]; exact hkm)
              obtain ⟨hc, hT2⟩ := HTF.out.step HS.out h1 h2 h3
              obtain ⟨D, hD⟩ : ∃ D, Mux.putM d ⟨3, ((k * n : Nat) : Int), s.extract (k * n) ee⟩ = D := ⟨_, rfl⟩
              have PU := Lib.hid (fun W (H : Mux.Ends W g d (fun _ => 0)) => Mux.put_any g d (fun _ => 0) ⟨3, ((k * n : Nat) : Int), s.extract (k * n) ee⟩ W H 0 hc D hD)
              rw [hD] at hT2
              have HT2 := Lib.hid hT2
              rw [er_0] at PU
              unfold Mux.val at PU
              obtain ⟨a, ha⟩ : ∃ a, k * n = a := ⟨_, rfl⟩
              obtain ⟨pc, hpc⟩ : ∃ pc, s.extract (k * n) ee = pc := ⟨_, rfl⟩
              rw [hpc] at hx PU
              rw [ha] at hx PU
              have HC : Hid (∀ W : World, W.heap[bp]? = w6.heap[bp]? → W.cell? ⟨bp, op + k * 3, none⟩ = some (.int .i64 ((a : Nat) : Int)) ∧ W.cell? ⟨bp, op + k * 3 + 2, none⟩ = some (.string pc)) := Lib.hid (fun W hW => ⟨(World.cell?_of_block (w := w6) (a := ⟨bp, op + k * 3, none⟩) hW).trans (HCELL.out k _ hx 0 _ rfl), (World.cell?_of_block (w := w6) (a := ⟨bp, op + k * 3 + 2, none⟩) hW).trans (HCELL.out k _ hx 2 _ rfl)⟩)
              have HKB : Hid (wr.heap[bp]? = w6.heap[bp]?) := Lib.hid ((HW.out.block bp (Nat.lt_of_lt_of_le HBP.out HK7.out.size) (by have := HBG.out; simp; omega)).trans (HK7.out.block bp HBP.out))
              have x0 := (HC.out wr HKB.out).1
              have x2 := (HC.out wr HKB.out).2
              have t50 : decide (((k + 1 : Nat) : Int) - 1 ≥ 0) = true := decide_eq_true (by omega)
              have t51 : ((k + 1 : Nat) : Int) - 1 = (k : Int) := by omega
              clear hx hc hT2 hD h1 h2 h3 hpc ha
              rw [t51]
              go_wp2_with fail
              refine wp_region_held_drew (S := (fun W' => W'.cell? ⟨bp, op + k * 3, none⟩ = some (.int .i64 ((a : Nat) : Int)) ∧ W'.cell? ⟨bp, op + k * 3 + 2, none⟩ = some (.string pc))) (by kernel_rfl) (⟨x0, x2⟩) (fun hHeld => ?_)
              refine wpAnyH_take (i := 0) (oi := ⟨some 106, _, _, _, _, _⟩) (v := ?vr10) rfl (by kernel_rfl) (by kernel_rfl) (by kernel_rfl) (fun _ _ _ h => h) (Or.inl ⟨by rfl, ?hyr10⟩) hHeld ?restr10
              case hyr10 => (intro W hSw; (try dsimp only at hSw); (try obtain ⟨hSw1, hSw2⟩ := hSw); (try obtain ⟨hSw2, hSw3⟩ := hSw2); (try obtain ⟨hSw3, hSw4⟩ := hSw3); go_simp; first | done | with_reducible rfl)
              simp only [Act.put, List.setIfInBounds_toArray, List.set_cons_zero, List.set_cons_succ]
              refine wpAnyH_take (i := 1) (oi := ⟨some 107, _, _, _, _, _⟩) (v := ?vr11) rfl (by kernel_rfl) (by kernel_rfl) (by kernel_rfl) (fun _ _ _ h => h) (Or.inl ⟨by rfl, ?hyr11⟩) hHeld ?restr11
              case hyr11 => (intro W hSw; (try dsimp only at hSw); (try obtain ⟨hSw1, hSw2⟩ := hSw); (try obtain ⟨hSw2, hSw3⟩ := hSw2); (try obtain ⟨hSw3, hSw4⟩ := hSw3); go_simp; first | done | with_reducible rfl)
              simp only [Act.put, List.setIfInBounds_toArray, List.set_cons_zero, List.set_cons_succ]
              refine wpAnyH_take (i := 2) (oi := ⟨some 108, _, _, _, _, _⟩) (v := ?vr12) rfl (by kernel_rfl) (by kernel_rfl) (by kernel_rfl) (fun _ _ _ h => h) (Or.inl ⟨by rfl, ?hyr12⟩) hHeld ?restr12
              case hyr12 => (intro W hSw; (try dsimp only at hSw); (try obtain ⟨hSw1, hSw2⟩ := hSw); (try obtain ⟨hSw2, hSw3⟩ := hSw2); (try obtain ⟨hSw3, hSw4⟩ := hSw3); go_simp; first | done | with_reducible rfl)
              simp only [Act.put, List.setIfInBounds_toArray, List.set_cons_zero, List.set_cons_succ]
              refine wpAnyH_take (i := 3) (oi := ⟨some 109, _, _, _, _, _⟩) (v := ?vr13) rfl (by kernel_rfl) (by kernel_rfl) (by kernel_rfl) (fun _ _ _ h => h) (Or.inl ⟨by rfl, ?hyr13⟩) hHeld ?restr13
              case hyr13 => (intro W hSw; (try dsimp only at hSw); (try obtain ⟨hSw1, hSw2⟩ := hSw); (try obtain ⟨hSw2, hSw3⟩ := hSw2); (try obtain ⟨hSw3, hSw4⟩ := hSw3); go_simp; first | done | with_reducible rfl)
              simp only [Act.put, List.setIfInBounds_toArray, List.set_cons_zero, List.set_cons_succ]
              refine wpAnyH_take (i := 4) (oi := ⟨some 110, _, _, _, _, _⟩) (v := ?vr14) rfl (by kernel_rfl) (by kernel_rfl) (by kernel_rfl) (fun _ _ _ h => h) (Or.inl ⟨by rfl, ?hyr14⟩) hHeld ?restr14
              case hyr14 => (intro W hSw; (try dsimp only at hSw); (try obtain ⟨hSw1, hSw2⟩ := hSw); (try obtain ⟨hSw2, hSw3⟩ := hSw2); (try obtain ⟨hSw3, hSw4⟩ := hSw3); go_simp; first | done | with_reducible rfl)
              simp only [Act.put, List.setIfInBounds_toArray, List.set_cons_zero, List.set_cons_succ]
              refine wpAnyH_take (i := 5) (oi := ⟨some 111, _, _, _, _, _⟩) (v := ?vr15) rfl (by kernel_rfl) (by kernel_rfl) (by kernel_rfl) (fun _ _ _ h => h) (Or.inl ⟨by rfl, ?hyr15⟩) hHeld ?restr15
              case hyr15 => (intro W hSw; (try dsimp only at hSw); (try obtain ⟨hSw1, hSw2⟩ := hSw); (try obtain ⟨hSw2, hSw3⟩ := hSw2); (try obtain ⟨hSw3, hSw4⟩ := hSw3); go_simp; first | done | with_reducible rfl)
              simp only [Act.put, List.setIfInBounds_toArray, List.set_cons_zero, List.set_cons_succ]
              refine wpAnyH_take (i := 6) (oi := ⟨some 112, _, _, _, _, _⟩) (v := ?vr16) rfl (by kernel_rfl) (by kernel_rfl) (by kernel_rfl) (fun _ _ _ h => h) (Or.inl ⟨by rfl, ?hyr16⟩) hHeld ?restr16
              case hyr16 => (intro W hSw; (try dsimp only at hSw); (try obtain ⟨hSw1, hSw2⟩ := hSw); (try obtain ⟨hSw2, hSw3⟩ := hSw2); (try obtain ⟨hSw3, hSw4⟩ := hSw3); go_simp; first | done | with_reducible rfl)
              simp only [Act.put, List.setIfInBounds_toArray, List.set_cons_zero, List.set_cons_succ]
              refine wpAnyH_take (i := 7) (oi := ⟨some 113, _, _, _, _, _⟩) (v := ?vr17) rfl (by kernel_rfl) (by kernel_rfl) (by kernel_rfl) (fun _ _ _ h => h) (Or.inl ⟨by rfl, ?hyr17⟩) hHeld ?restr17
              case hyr17 => (intro W hSw; (try dsimp only at hSw); (try obtain ⟨hSw1, hSw2⟩ := hSw); (try obtain ⟨hSw2, hSw3⟩ := hSw2); (try obtain ⟨hSw3, hSw4⟩ := hSw3); go_simp; first | done | with_reducible rfl)
              simp only [Act.put, List.setIfInBounds_toArray, List.set_cons_zero, List.set_cons_succ]
              refine wpAnyH_take (i := 8) (oi := ⟨some 114, _, _, _, _, _⟩) (v := ?vr18) rfl (by kernel_rfl) (by kernel_rfl) (by kernel_rfl) (fun _ _ _ h => h) (Or.inl ⟨by rfl, ?hyr18⟩) hHeld ?restr18
              case hyr18 => (intro W hSw; (try dsimp only at hSw); (try obtain ⟨hSw1, hSw2⟩ := hSw); (try obtain ⟨hSw2, hSw3⟩ := hSw2); (try obtain ⟨hSw3, hSw4⟩ := hSw3); go_simp; first | done | with_reducible rfl)
              simp only [Act.put, List.setIfInBounds_toArray, List.set_cons_zero, List.set_cons_succ]
              refine wpAnyH_take (i := 9) (oi := ⟨some 115, _, _, _, _, _⟩) (v := ?vr19) rfl (by kernel_rfl) (by kernel_rfl) (by kernel_rfl) (fun _ _ _ h => h) (Or.inl ⟨by rfl, ?hyr19⟩) hHeld ?restr19
              case hyr19 => (intro W hSw; (try dsimp only at hSw); (try obtain ⟨hSw1, hSw2⟩ := hSw); (try obtain ⟨hSw2, hSw3⟩ := hSw2); (try obtain ⟨hSw3, hSw4⟩ := hSw3); go_simp; first | done | with_reducible rfl)
              simp only [Act.put, List.setIfInBounds_toArray, List.set_cons_zero, List.set_cons_succ]
              refine wpAnyH_take (i := 10) (oi := ⟨some 116, _, _, _, _, _⟩) (v := ?vr110) rfl (by kernel_rfl) (by kernel_rfl) (by kernel_rfl) (fun _ _ _ h => h) (Or.inl ⟨by rfl, ?hyr110⟩) hHeld ?restr110
              case hyr110 => (intro W hSw; (try dsimp only at hSw); (try obtain ⟨hSw1, hSw2⟩ := hSw); (try obtain ⟨hSw2, hSw3⟩ := hSw2); (try obtain ⟨hSw3, hSw4⟩ := hSw3); go_simp; first | done | with_reducible rfl)
              simp only [Act.put, List.setIfInBounds_toArray, List.set_cons_zero, List.set_cons_succ]
              refine wpAnyH_take (i := 11) (oi := ⟨some 117, _, _, _, _, _⟩) (v := ?vr111) rfl (by kernel_rfl) (by kernel_rfl) (by kernel_rfl) (fun _ _ _ h => h) (Or.inl ⟨by rfl, ?hyr111⟩) hHeld ?restr111
              case hyr111 => (intro W hSw; (try dsimp only at hSw); (try obtain ⟨hSw1, hSw2⟩ := hSw); (try obtain ⟨hSw2, hSw3⟩ := hSw2); (try obtain ⟨hSw3, hSw4⟩ := hSw3); go_simp; first | done | with_reducible rfl)
              simp only [Act.put, List.setIfInBounds_toArray, List.set_cons_zero, List.set_cons_succ]
              refine wpAnyH_ready (rs := [12]) (by kernel_rfl) (by simp) ?_
              refine AllReadyH.cons (o := ⟨some 118, _, _, _, _, _⟩) rfl (fun KK hK => ?_) AllReadyH.nil
              go_simp
              refine (PU.out wr.drew HE.out.drew).mono ?_; rintro e w8 ⟨rfl, hE8, hg8⟩
              have HE8 := Lib.hid hE8
              have HW8 : Hid (w7.grownBy w8 (some g)) := Lib.hid (Mux.gtrans (grown_drew HW.out) hg8)
              have hx8 := HC.out w8 ((hg8.block bp (Nat.lt_of_lt_of_le HBP.out (Nat.le_trans HK7.out.size HW.out.size)) (by have := HBG.out; simp; omega)).trans HKB.out)
              clear hE8 hg8
              go_wp2_with fail
              refine hK.out _ _ (hx8) (fun hHeld2 => ?_)
              clear hK KK
              try simp only [Act.put, List.setIfInBounds_toArray, List.set_cons_zero, List.set_cons_succ]
              refine wpAnyH_take (i := 13) (oi := ⟨some 119, _, _, _, _, _⟩) (v := ?vr113) rfl (by kernel_rfl) (by kernel_rfl) (by kernel_rfl) (fun _ _ _ h => h) (Or.inl ⟨by rfl, ?hyr113⟩) hHeld2 ?restr113
              case hyr113 => (intro W hSw; (try dsimp only at hSw); (try obtain ⟨hSw1, hSw2⟩ := hSw); (try obtain ⟨hSw2, hSw3⟩ := hSw2); (try obtain ⟨hSw3, hSw4⟩ := hSw3); go_simp; first | done | with_reducible rfl)
              simp only [Act.put, List.setIfInBounds_toArray, List.set_cons_zero, List.set_cons_succ]
              refine wpAnyH_done (by kernel_rfl) ?_ _
              clear hHeld hHeld2 x0 x2 PU HE HTF HW HKB HC
              go_wp2_with fail
              go_roundw
              case rel => exact ⟨k, D, by omega, by first | rfl | go_num | (congr 1; omega), HE8, HT2, HW8⟩
              case measure => first | (simp [intOf]; done) | (simp [intOf]; omega)
            · obtain rfl : j = 0 := by omega
              have t50 : decide (((0 : Nat) : Int) - 1 ≥ 0) = false := by decide
              have htx := HTF.out.ends HN1.out HS.out
              have RD := Lib.hid (fun W (H : Mux.Ends W g d (fun _ => 0)) => Mux.read_any g d (fun _ => 0) HTF.out.okm 3 W H s htx 0 rfl _ rfl)
              rw [er_0] at RD
              generalize Mux.readR d (fun _ => 0) 3 = R at RD
              have HB8 := Lib.hid (gbelow HB7.out (Nat.le_refl _) HW.out HG.out)
              have hkb : wr.heap[bp]? = w6.heap[bp]? := (HW.out.block bp (Nat.lt_of_lt_of_le HBP.out HK7.out.size) (by have := HBG.out; simp; omega)).trans (HK7.out.block bp HBP.out)
              have hci8 : Cells.CI Part.lay wr (some ⟨bp, op, none⟩) cp (Part.parts s n) := HCI.out.keep (Nat.le_trans HK7.out.size HW.out.size) (fun a e _ => by injection e with e; subst e; exact hkb)
              have HCI8 := Lib.hid hci8
              have hjm : Part.joinM (Part.parts s n) = .ok (Part.text s) := Part.join_whole (Part.whole_parts s n _ HN1.out HS.out (fun _ h => h) (fun _ h => h)) (by rw [HPL.out]; omega)
              have JO := Lib.hid (fun W (hW : Cells.CI Part.lay W (some ⟨bp, op, none⟩) cp (Part.parts s n)) => Part.fjoin_any (some ⟨bp, op, none⟩) cp (mm + 1) (Part.parts s n) W HPL.out.symm hW (fun x hx => (Part.fits_parts s n HN1.out HS.out x hx).1) s .nilIface (by rw [hjm]; exact ⟨rfl, rfl⟩))
              have HBPR : Hid (bp < wr.heap.size) := Lib.hid (Nat.lt_of_lt_of_le HBP.out (Nat.le_trans HK7.out.size HW.out.size))
              have u5 : (s.toList == s.toList) = true := by simp
              have hmm1 : ((mm + 1 : Nat) : Int) = (mm : Int) + 1 := by omega
              clear htx hci8 hjm HW HTF HB7 hkb
              go_wp2_with fail
              refine (RD.out _ HE.out).mono ?_; rintro e w8 ⟨rfl, hE8, hg8⟩
              have HB9 := Lib.hid (gbelow HB8.out (Nat.le_refl _) hg8 HG.out)
              have HCI9 : Hid (Cells.CI Part.lay w8 (some ⟨bp, op, none⟩) cp (Part.parts s n)) := Lib.hid (HCI8.out.keep hg8.size (fun a e _ => by injection e with e; subst e; exact hg8.block _ HBPR.out (by have := HBG.out; simp; omega)))
              clear hE8 hg8 HE HB8 HCI8 RD
              go_wp2_with fail
              refine (JO.out _ HCI9.out).mono ?_; rintro e w9 ⟨rfl, hb9⟩
              have HB10 := Lib.hid (bcall HB9.out hb9)
              clear hb9 JO HCI9 HB9
              go_wp2_with fail
              go_ret
              exact ⟨rfl, HB10.out⟩
        · have CU := Lib.hid (fun W => Part.fcut_bad s z W _ rfl hcz)
          generalize Part.cutBad s z = cc at CU
          clear hcz
          go_wp2_with fail
          refine (CU.out _).mono ?_; rintro e w6 ⟨rfl, rfl⟩
          go_wp2_with fail
          go_ret
          exact ⟨rfl, HB2.out⟩
      · have S := Lib.hid (Stuff.frames_bad p4 c4 X.length X wr rfl hi4 4 (by unfold Stuff.bad; rw [if_pos (by omega)]) (by decide))
        obtain ⟨xn, hxn⟩ : ∃ xn, X.length = xn := ⟨_, rfl⟩
        rw [hxn] at hlx hol hx S ⊢
        have t9 : decide ((xn : Int) ≤ 200) = false := decide_eq_false (by omega)
        have HB2 := Lib.hid hB
        clear hxn
        go_wp2_with fail
        refine S.out.mono ?_; rintro e w2 ⟨rfl, rfl⟩
        clear S hB hBs hol hi4
        by_cases hcz : Part.cutBad s z = 0
        · obtain ⟨hs200, n, rfl, hn1, hn2, hn4⟩ := Part.cutBad_zero hcz
          have CU := Lib.hid (fun W => Part.fcut_some s n W hs200 hn1 hn2 hn4)
          have HS := Lib.hid hs200
          have HN1 := Lib.hid hn1
          obtain ⟨mm, hmm⟩ : ∃ mm, Part.more s n = mm := ⟨_, rfl⟩
          have HMM := Lib.hid hmm
          rw [hmm] at hn4
          have hpl : (Part.parts s n).length = mm + 1 := by rw [Part.parts_len, hmm]
          have HPL := Lib.hid hpl
          have HT0 := Lib.hid (show Mux.Tf s n (fun _ => 0) (mm + 1) by rw [← hmm]; exact Mux.Tf.start s n)
          clear hcz hpl hmm
          go_wp2_with fail
          refine (CU.out _).mono ?_; rintro e w6 ⟨v6, rfl, ho6, hb6⟩
          obtain ⟨pp, cp, rfl, hci6⟩ := ho6.form
          obtain ⟨bp, op, rfl, hbp, hcell⟩ := hci6.2.2 (by rw [HPL.out]; omega)
          have HCI := Lib.hid hci6
          have HCELL := Lib.hid hcell
          have HBP := Lib.hid hbp
          have HB6 := Lib.hid (bcall HB2.out hb6)
          rw [HPL.out]
          clear CU ho6 hci6 hb6 HB2 hcell hbp
          go_wp2_with fail
          refine (Mux.new_any _).mono ?_; rintro e w7 ⟨rfl, hE7, hb7⟩
          obtain ⟨g, hg⟩ : ∃ g, w6.heap.size = g := ⟨_, rfl⟩
          rw [hg] at hE7 ⊢
          have HE7 := Lib.hid (show Mux.Ends w7 g (fun _ => 0) (fun _ => 0) from hE7)
          have HB7 := Lib.hid (bcall HB6.out hb7)
          have HK7 := Lib.hid hb7
          have HG : Hid (w.heap.size ≤ g) := Lib.hid (by rw [← hg]; exact HB6.out.size)
          have HBG : Hid (bp < g) := Lib.hid (by rw [← hg]; exact HBP.out)
          have HG6 := Lib.hid hg
          have t41 : ((mm : Int) + 1 - 1) = (mm : Int) := by omega
          clear hE7 hb7 hg
          go_wp2_with fail
          go_loopw [18] (fun iv wr => ∃ (j : Nat) (d : Nat → Nat), j ≤ mm + 1 ∧ iv = .int .i64 ((j : Int) - 1) ∧ Hid (Mux.Ends wr g d (fun _ => 0)) ∧ Hid (Mux.Tf s n d j) ∧ Hid (w7.grownBy wr (some g))) (fun i _ => (intOf i + 1).toNat)
          case atStart => exact ⟨mm + 1, _, Nat.le_refl _, by first | rfl | go_num | (congr 1; omega), HE7, HT0, Lib.hid (grefl _ _)⟩
          case round =>
            clear HE7 HT0
            obtain ⟨j, d, hj, rfl, HE, HTF, HW⟩ := hrel
            by_cases hj0 : 0 < j
            · obtain ⟨k, rfl⟩ : ∃ k, j = k + 1 := ⟨j - 1, by omega⟩
              have hkm : k ≤ mm := by omega
              have hki : (k : Int) < (mm : Int) + 1 := by omega
              obtain ⟨mr, ee, hx, h1, h2, h3⟩ := Mux.parts_at s n k HN1.out (by rw [HMM.out]; exact hkm)
              obtain ⟨hc, hT2⟩ := HTF.out.step HS.out h1 h2 h3
              obtain ⟨D, hD⟩ : ∃ D, Mux.putM d ⟨3, ((k * n : Nat) : Int), s.extract (k * n) ee⟩ = D := ⟨_, rfl⟩
              have PU := Lib.hid (fun W (H : Mux.Ends W g d (fun _ => 0)) => Mux.put_any g d (fun _ => 0) ⟨3, ((k * n : Nat) : Int), s.extract (k * n) ee⟩ W H 0 hc D hD)
              rw [hD] at hT2
              have HT2 := Lib.hid hT2
              rw [er_0] at PU
              unfold Mux.val at PU
              obtain ⟨a, ha⟩ : ∃ a, k * n = a := ⟨_, rfl⟩
              obtain ⟨pc, hpc⟩ : ∃ pc, s.extract (k * n) ee = pc := ⟨_, rfl⟩
              rw [hpc] at hx PU
              rw [ha] at hx PU
              have HC : Hid (∀ W : World, W.heap[bp]? = w6.heap[bp]? → W.cell? ⟨bp, op + k * 3, none⟩ = some (.int .i64 ((a : Nat) : Int)) ∧ W.cell? ⟨bp, op + k * 3 + 2, none⟩ = some (.string pc)) := Lib.hid (fun W hW => ⟨(World.cell?_of_block (w := w6) (a := ⟨bp, op + k * 3, none⟩) hW).trans (HCELL.out k _ hx 0 _ rfl), (World.cell?_of_block (w := w6) (a := ⟨bp, op + k * 3 + 2, none⟩) hW).trans (HCELL.out k _ hx 2 _ rfl)⟩)
              have HKB : Hid (wr.heap[bp]? = w6.heap[bp]?) := Lib.hid ((HW.out.block bp (Nat.lt_of_lt_of_le HBP.out HK7.out.size) (by have := HBG.out; simp; omega)).trans (HK7.out.block bp HBP.out))
              have x0 := (HC.out wr HKB.out).1
              have x2 := (HC.out wr HKB.out).2
              have t50 : decide (((k + 1 : Nat) : Int) - 1 ≥ 0) = true := decide_eq_true (by omega)
              have t51 : ((k + 1 : Nat) : Int) - 1 = (k : Int) := by omega
              clear hx hc hT2 hD h1 h2 h3 hpc ha
              rw [t51]
              go_wp2_with fail
              refine wp_region_held_drew (S := (fun W' => W'.cell? ⟨bp, op + k * 3, none⟩ = some (.int .i64 ((a : Nat) : Int)) ∧ W'.cell? ⟨bp, op + k * 3 + 2, none⟩ = some (.string pc))) (by kernel_rfl) (⟨x0, x2⟩) (fun hHeld => ?_)
              refine wpAnyH_take (i := 0) (oi := ⟨some 106, _, _, _, _, _⟩) (v := ?vr20) rfl (by kernel_rfl) (by kernel_rfl) (by kernel_rfl) (fun _ _ _ h => h) (Or.inl ⟨by rfl, ?hyr20⟩) hHeld ?restr20
              case hyr20 => (intro W hSw; (try dsimp only at hSw); (try obtain ⟨hSw1, hSw2⟩ := hSw); (try obtain ⟨hSw2, hSw3⟩ := hSw2); (try obtain ⟨hSw3, hSw4⟩ := hSw3); go_simp; first | done | with_reducible rfl)
              simp only [Act.put, List.setIfInBounds_toArray, List.set_cons_zero, List.set_cons_succ]
              refine wpAnyH_take (i := 1) (oi := ⟨some 107, _, _, _, _, _⟩) (v := ?vr21) rfl (by kernel_rfl) (by kernel_rfl) (by kernel_rfl) (fun _ _ _ h => h) (Or.inl ⟨by rfl, ?hyr21⟩) hHeld ?restr21
              case hyr21 => (intro W hSw; (try dsimp only at hSw); (try obtain ⟨hSw1, hSw2⟩ := hSw); (try obtain ⟨hSw2, hSw3⟩ := hSw2); (try obtain ⟨hSw3, hSw4⟩ := hSw3); go_simp; first | done | with_reducible rfl)
              simp only [Act.put, List.setIfInBounds_toArray, List.set_cons_zero, List.set_cons_succ]
              refine wpAnyH_take (i := 2) (oi := ⟨some 108, _, _, _, _, _⟩) (v := ?vr22) rfl (by kernel_rfl) (by kernel_rfl) (by kernel_rfl) (fun _ _ _ h => h) (Or.inl ⟨by rfl, ?hyr22⟩) hHeld ?restr22
              case hyr22 => (intro W hSw; (try dsimp only at hSw); (try obtain ⟨hSw1, hSw2⟩ := hSw); (try obtain ⟨hSw2, hSw3⟩ := hSw2); (try obtain ⟨hSw3, hSw4⟩ := hSw3); go_simp; first | done | with_reducible rfl)
              simp only [Act.put, List.setIfInBounds_toArray, List.set_cons_zero, List.set_cons_succ]
              refine wpAnyH_take (i := 3) (oi := ⟨some 109, _, _, _, _, _⟩) (v := ?vr23) rfl (by kernel_rfl) (by kernel_rfl) (by kernel_rfl) (fun _ _ _ h => h) (Or.inl ⟨by rfl, ?hyr23⟩) hHeld ?restr23
              case hyr23 => (intro W hSw; (try dsimp only at hSw); (try obtain ⟨hSw1, hSw2⟩ := hSw); (try obtain ⟨hSw2, hSw3⟩ := hSw2); (try obtain ⟨hSw3, hSw4⟩ := hSw3); go_simp; first | done | with_reducible rfl)
              simp only [Act.put, List.setIfInBounds_toArray, List.set_cons_zero, List.set_cons_succ]
              refine wpAnyH_take (i := 4) (oi := ⟨some 110, _, _, _, _, _⟩) (v := ?vr24) rfl (by kernel_rfl) (by kernel_rfl) (by kernel_rfl) (fun _ _ _ h => h) (Or.inl ⟨by rfl, ?hyr24⟩) hHeld ?restr24
              case hyr24 => (intro W hSw; (try dsimp only at hSw); (try obtain ⟨hSw1, hSw2⟩ := hSw); (try obtain ⟨hSw2, hSw3⟩ := hSw2); (try obtain ⟨hSw3, hSw4⟩ := hSw3); go_simp; first | done | with_reducible rfl)
              simp only [Act.put, List.setIfInBounds_toArray, List.set_cons_zero, List.set_cons_succ]
              refine wpAnyH_take (i := 5) (oi := ⟨some 111, _, _, _, _, _⟩) (v := ?vr25) rfl (by kernel_rfl) (by kernel_rfl) (by kernel_rfl) (fun _ _ _ h => h) (Or.inl ⟨by rfl, ?hyr25⟩) hHeld ?restr25
              case hyr25 => (intro W hSw; (try dsimp only at hSw); (try obtain ⟨hSw1, hSw2⟩ := hSw); (try obtain ⟨hSw2, hSw3⟩ := hSw2); (try obtain ⟨hSw3, hSw4⟩ := hSw3); go_simp; first | done | with_reducible rfl)
              simp only [Act.put, List.setIfInBounds_toArray, List.set_cons_zero, List.set_cons_succ]
              refine wpAnyH_take (i := 6) (oi := ⟨some 112, _, _, _, _, _⟩) (v := ?vr26) rfl (by kernel_rfl) (by kernel_rfl) (by kernel_rfl) (fun _ _ _ h => h) (Or.inl ⟨by rfl, ?hyr26⟩) hHeld ?restr26
              case hyr26 => (intro W hSw; (try dsimp only at hSw); (try obtain ⟨hSw1, hSw2⟩ := hSw); (try obtain ⟨hSw2, hSw3⟩ := hSw2); (try obtain ⟨hSw3, hSw4⟩ := hSw3); go_simp; first | done | with_reducible rfl)
              simp only [Act.put, List.setIfInBounds_toArray, List.set_cons_zero, List.set_cons_succ]
              refine wpAnyH_take (i := 7) (oi := ⟨some 113, _, _, _, _, _⟩) (v := ?vr27) rfl (by kernel_rfl) (by kernel_rfl) (by kernel_rfl) (fun _ _ _ h => h) (Or.inl ⟨by rfl, ?hyr27⟩) hHeld ?restr27
              case hyr27 => (intro W hSw; (try dsimp only at hSw); (try obtain ⟨hSw1, hSw2⟩ := hSw); (try obtain ⟨hSw2, hSw3⟩ := hSw2); (try obtain ⟨hSw3, hSw4⟩ := hSw3); go_simp; first | done | with_reducible rfl)
              simp only [Act.put, List.setIfInBounds_toArray, List.set_cons_zero, List.set_cons_succ]
              refine wpAnyH_take (i := 8) (oi := ⟨some 114, _, _, _, _, _⟩) (v := ?vr28) rfl (by kernel_rfl) (by kernel_rfl) (by kernel_rfl) (fun _ _ _ h => h) (Or.inl ⟨by rfl, ?hyr28⟩) hHeld ?restr28
              case hyr28 => (intro W hSw; (try dsimp only at hSw); (try obtain ⟨hSw1, hSw2⟩ := hSw); (try obtain ⟨hSw2, hSw3⟩ := hSw2); (try obtain ⟨hSw3, hSw4⟩ := hSw3); go_simp; first | done | with_reducible rfl)
              simp only [Act.put, List.setIfInBounds_toArray, List.set_cons_zero, List.set_cons_succ]
              refine wpAnyH_take (i := 9) (oi := ⟨some 115, _, _, _, _, _⟩) (v := ?vr29) rfl (by kernel_rfl) (by kernel_rfl) (by kernel_rfl) (fun _ _ _ h => h) (Or.inl ⟨by rfl, ?hyr29⟩) hHeld ?restr29
              case hyr29 => (intro W hSw; (try dsimp only at hSw); (try obtain ⟨hSw1, hSw2⟩ := hSw); (try obtain ⟨hSw2, hSw3⟩ := hSw2); (try obtain ⟨hSw3, hSw4⟩ := hSw3); go_simp; first | done | with_reducible rfl)
              simp only [Act.put, List.setIfInBounds_toArray, List.set_cons_zero, List.set_cons_succ]
              refine wpAnyH_take (i := 10) (oi := ⟨some 116, _, _, _, _, _⟩) (v := ?vr210) rfl (by kernel_rfl) (by kernel_rfl) (by kernel_rfl) (fun _ _ _ h => h) (Or.inl ⟨by rfl, ?hyr210⟩) hHeld ?restr210
              case hyr210 => (intro W hSw; (try dsimp only at hSw); (try obtain ⟨hSw1, hSw2⟩ := hSw); (try obtain ⟨hSw2, hSw3⟩ := hSw2); (try obtain ⟨hSw3, hSw4⟩ := hSw3); go_simp; first | done | with_reducible rfl)
              simp only [Act.put, List.setIfInBounds_toArray, List.set_cons_zero, List.set_cons_succ]
              refine wpAnyH_take (i := 11) (oi := ⟨some 117, _, _, _, _, _⟩) (v := ?vr211) rfl (by kernel_rfl) (by kernel_rfl) (by kernel_rfl) (fun _ _ _ h => h) (Or.inl ⟨by rfl, ?hyr211⟩) hHeld ?restr211
              case hyr211 => (intro W hSw; (try dsimp only at hSw); (try obtain ⟨hSw1, hSw2⟩ := hSw); (try obtain ⟨hSw2, hSw3⟩ := hSw2); (try obtain ⟨hSw3, hSw4⟩ := hSw3); go_simp; first | done | with_reducible rfl)
              simp only [Act.put, List.setIfInBounds_toArray, List.set_cons_zero, List.set_cons_succ]
              refine wpAnyH_ready (rs := [12]) (by kernel_rfl) (by simp) ?_
              refine AllReadyH.cons (o := ⟨some 118, _, _, _, _, _⟩) rfl (fun KK hK => ?_) AllReadyH.nil
              go_simp
              refine (PU.out wr.drew HE.out.drew).mono ?_; rintro e w8 ⟨rfl, hE8, hg8⟩
              have HE8 := Lib.hid hE8
              have HW8 : Hid (w7.grownBy w8 (some g)) := Lib.hid (Mux.gtrans (grown_drew HW.out) hg8)
              have hx8 := HC.out w8 ((hg8.block bp (Nat.lt_of_lt_of_le HBP.out (Nat.le_trans HK7.out.size HW.out.size)) (by have := HBG.out; simp; omega)).trans HKB.out)
              clear hE8 hg8
              go_wp2_with fail
              refine hK.out _ _ (hx8) (fun hHeld2 => ?_)
              clear hK KK
              try simp only [Act.put, List.setIfInBounds_toArray, List.set_cons_zero, List.set_cons_succ]
              refine wpAnyH_take (i := 13) (oi := ⟨some 119, _, _, _, _, _⟩) (v := ?vr213) rfl (by kernel_rfl) (by kernel_rfl) (by kernel_rfl) (fun _ _ _ h => h) (Or.inl ⟨by rfl, ?hyr213⟩) hHeld2 ?restr213
              case hyr213 => (intro W hSw; (try dsimp only at hSw); (try obtain ⟨hSw1, hSw2⟩ := hSw); (try obtain ⟨hSw2, hSw3⟩ := hSw2); (try obtain ⟨hSw3, hSw4⟩ := hSw3); go_simp; first | done | with_reducible rfl)
              simp only [Act.put, List.setIfInBounds_toArray, List.set_cons_zero, List.set_cons_succ]
              refine wpAnyH_done (by kernel_rfl) ?_ _
              clear hHeld hHeld2 x0 x2 PU HE HTF HW HKB HC
              go_wp2_with fail
              go_roundw
              case rel => exact ⟨k, D, by omega, by first | rfl | go_num | (congr 1; omega), HE8, HT2, HW8⟩
              case measure => first | (simp [intOf]; done) | (simp [intOf]; omega)
            · obtain rfl : j = 0 := by omega
              have t50 : decide (((0 : Nat) : Int) - 1 ≥ 0) = false := by decide
              have htx := HTF.out.ends HN1.out HS.out
              have RD := Lib.hid (fun W (H : Mux.Ends W g d (fun _ => 0)) => Mux.read_any g d (fun _ => 0) HTF.out.okm 3 W H s htx 0 rfl _ rfl)
              rw [er_0] at RD
              generalize Mux.readR d (fun _ => 0) 3 = R at RD
              have HB8 := Lib.hid (gbelow HB7.out (Nat.le_refl _) HW.out HG.out)
              have hkb : wr.heap[bp]? = w6.heap[bp]? := (HW.out.block bp (Nat.lt_of_lt_of_le HBP.out HK7.out.size) (by have := HBG.out; simp; omega)).trans (HK7.out.block bp HBP.out)
              have hci8 : Cells.CI Part.lay wr (some ⟨bp, op, none⟩) cp (Part.parts s n) := HCI.out.keep (Nat.le_trans HK7.out.size HW.out.size) (fun a e _ => by injection e with e; subst e; exact hkb)
              have HCI8 := Lib.hid hci8
              have hjm : Part.joinM (Part.parts s n) = .ok (Part.text s) := Part.join_whole (Part.whole_parts s n _ HN1.out HS.out (fun _ h => h) (fun _ h => h)) (by rw [HPL.out]; omega)
              have JO := Lib.hid (fun W (hW : Cells.CI Part.lay W (some ⟨bp, op, none⟩) cp (Part.parts s n)) => Part.fjoin_any (some ⟨bp, op, none⟩) cp (mm + 1) (Part.parts s n) W HPL.out.symm hW (fun x hx => (Part.fits_parts s n HN1.out HS.out x hx).1) s .nilIface (by rw [hjm]; exact ⟨rfl, rfl⟩))
              have HBPR : Hid (bp < wr.heap.size) := Lib.hid (Nat.lt_of_lt_of_le HBP.out (Nat.le_trans HK7.out.size HW.out.size))
              have u5 : (s.toList == s.toList) = true := by simp
              have hmm1 : ((mm + 1 : Nat) : Int) = (mm : Int) + 1 := by omega
              clear htx hci8 hjm HW HTF HB7 hkb
              go_wp2_with fail
              refine (RD.out _ HE.out).mono ?_; rintro e w8 ⟨rfl, hE8, hg8⟩
              have HB9 := Lib.hid (gbelow HB8.out (Nat.le_refl _) hg8 HG.out)
              have HCI9 : Hid (Cells.CI Part.lay w8 (some ⟨bp, op, none⟩) cp (Part.parts s n)) := Lib.hid (HCI8.out.keep hg8.size (fun a e _ => by injection e with e; subst e; exact hg8.block _ HBPR.out (by have := HBG.out; simp; omega)))
              clear hE8 hg8 HE HB8 HCI8 RD
              go_wp2_with fail
              refine (JO.out _ HCI9.out).mono ?_; rintro e w9 ⟨rfl, hb9⟩
              have HB10 := Lib.hid (bcall HB9.out hb9)
              clear hb9 JO HCI9 HB9
              go_wp2_with fail
              go_ret
              exact ⟨rfl, HB10.out⟩
        · have CU := Lib.hid (fun W => Part.fcut_bad s z W _ rfl hcz)
          generalize Part.cutBad s z = cc at CU
          clear hcz
          go_wp2_with fail
          refine (CU.out _).mono ?_; rintro e w6 ⟨rfl, rfl⟩
          go_wp2_with fail
          go_ret
          exact ⟨rfl, HB2.out⟩

theorem reads : Try.f6.params.toList.all (fun t => Try.prog.readableRec t && decide (t < Try.prog.types.size)) = true := by kernel_rfl

theorem contract (H : Type) (enc : TypeId × Value → H) (W : World) (base : Nat) (args : Array Value) (ds gs : List (DataW H)) (before : List MemPlace)
    (hval : ∀ (j : Nat) t v, Try.f6.params[j]? = some t → args[j]? = some v → Value.okWide Try.prog W .any base t v)
    (hW : DataW.Whole enc Try.prog Try.f6.params.toList Rows.topFramesSpec.vars false W args.toList ds gs before) (hk : Rows.uptoSmall H (ds ++ gs) = true) :
    Calls Try.prog 6 args W fun e W' => ∃ v, e = .returned v ∧ Rows.topFramesSpec.post enc Try.prog Try.f6 false true false false W args v W' := by
  have hW' := hW
  obtain ⟨p, q, hA0, hV, rfl, hfz, hnd⟩ := hW
  have hA : DataW.TrodAll enc Try.prog W 0 (fun _ => true) true Try.f6.params.toList args.toList ds p := hA0
  have hlt := hA.lt
  rw [Try.params6] at hA hval
  obtain ⟨v0, vs0, d0, ds0, p0, q0, hargs, rfl, rfl, h0, r0⟩ := trodAll_cons hA
  obtain ⟨v1, vs1, d1, ds1, p1, q1, hvs1, rfl, rfl, h1, r1⟩ := trodAll_cons r0
  obtain ⟨v2, vs2, d2, ds2, p2, q2, hvs2, rfl, rfl, h2, r2⟩ := trodAll_cons r1
  obtain ⟨hvsn, rfl, rfl⟩ := trodAll_nil r2
  simp only [hvsn, hvs2, hvs1] at hargs
  obtain rfl : args = #[v0, v1, v2] := by cases args; simp_all
  obtain ⟨rfl, rfl⟩ := trodVars_none hV
  clear hA0
  obtain ⟨p0a, cap0, l0, rfl, i0, e0⟩ := Stuff.open_rows Try.underlying40 Try.underlying22 Try.underlying3 (by kernel_rfl) (by kernel_rfl) (hval 0 40 v0 rfl rfl) h0 (fun x hx => hlt x (by simp [hx]))
  obtain ⟨s1, rfl, rfl, rfl, z1⟩ := Go.ChangeMaps.open_string Try.underlying9 (hval 1 9 v1 rfl rfl) h1
  obtain ⟨a2, rfl, rfl, rfl, w2⟩ := open_int Try.underlying3 (hval 2 3 v2 rfl rfl) h2
  have b2 := bounds_int w2
  exact law_post 4 laid reads rfl Try.underlying4 rfl hW' ⟨rfl, rfl, rfl⟩ (law_any p0a cap0 l0 s1 a2 W i0 (by have := small_at (d := d0) (l := List.replicate l0.length (0 : Int)) (by simp) hk (by simpa using e0); simpa using this))

set_option maxRecDepth 100000 in
theorem lifted (os : Os) (started : os.Started) (H : Type) (enc : TypeId × Value → H) (F : Stop.Interp) :
    ReturnsInHanded {} Try.checked os 6 .any ((Rows.OpenSpec.upto Rows.topFramesSpec).pre6 enc Try.prog Try.f6 Rows.topFramesUptoRow.domain false) (((Rows.OpenSpec.upto Rows.topFramesSpec).at F).post enc Try.prog Try.f6 false true false false) := by
  refine returnsInHanded_of_cond (C := Try.checked) (s := Rows.OpenSpec.upto Rows.topFramesSpec) (k := Rows.uptoSmall) rfl own started (by kernel_rfl) Try.func6
    (OpenSpec.witness (enc := enc) (C := Try.checked) (s := Rows.OpenSpec.upto Rows.topFramesSpec) (k := Rows.uptoSmall) rfl false ⟨#[], #[.slice none 0 0, .string .empty, .int .i64 0], []⟩ 8 (by kernel_rfl) (by kernel_rfl) (by kernel_rfl)
      (x := ([.nil, .lit (.string []), .lit (.int .i64 0)], [], [])) (by kernel_rfl) rfl (by kernel_rfl)) ?_
  intro W base args ds gs before hval hW _ hk _
  exact contract H enc W base args ds gs before hval hW hk

theorem proved : Rows.TopFramesUptoSaid :=
  OpenClaim.holds_of_cond 6 Try.f6 rfl rfl rfl rfl rfl rfl rfl ⟨rfl, rfl, rfl, rfl, rfl⟩ rfl rfl rfl rfl rfl (by kernel_rfl) Try.func6 (by kernel_rfl)
    (of_decide_eq_true (by kernel_rfl)) (by unfold Func.isWrapper; first | (rw [if_pos (by decide +kernel)]; kernel_rfl) | (rw [if_neg (by decide +kernel)]; exact ⟨rfl, rfl⟩))
    (fun os started H enc _ F => lifted os started H enc F)
end Go.Proofs.Ytcleanjacijfoaa.TopFramesL
