/- All non-empty frames between flags are extracted in order: the law returns true for every input of bulk at most 1048576 (without the bound an append may pass the greatest slice). No other condition. -/
import Derived.Test.YtfgkbogccaiceaaStuffLaw
import Derived.Test.YtfgkbogccaiceaaStuff5
import Derived.Test.YtfgkbogccaiceaaRowArg
namespace Go.Proofs.Ytfgkbogccaiceaa.stuffFramesP
open Go.ChangeShapes Go.WideShapes Go.ChangeAt Go.RowKit
open Go.Proofs.Ytfgkbogccaiceaa.Kit Go.Proofs.Ytfgkbogccaiceaa.App Go.Proofs.Ytfgkbogccaiceaa.StuffMath Go.Proofs.Ytfgkbogccaiceaa.Stuff
set_option linter.unusedVariables false

/-- The rows so far that are not empty. -/
def full (ls : List (List Int)) : List (List Int) := ls.filter (fun r => decide (0 < r.length))
theorem full_snoc (ls : List (List Int)) (r : List Int) : full (ls ++ [r]) = if 0 < r.length then full ls ++ [r] else full ls := by
  unfold full
  rw [List.filter_append]
  by_cases h : 0 < r.length
  · rw [if_pos h, List.filter_cons_of_pos (by simpa using h), List.filter_nil]
  · rw [if_neg h, List.filter_cons_of_neg (by simpa using h), List.filter_nil, List.append_nil]
theorem take_snoc (ls : List (List Int)) (k : Nat) (h : k < ls.length) : ls.take (k + 1) = ls.take k ++ [ls[k]?.getD []] := by
  rw [List.take_succ_eq_append_getElem h, List.getElem?_eq_getElem h]; rfl
theorem framed_len : ∀ rs : List (List Int), (∀ r ∈ rs, r.length ≤ 200) → (framed rs).length ≤ 248 * rs.length := by
  intro rs
  induction rs with
  | nil => intro _; simp [framed]
  | cons r rs ih =>
    intro h
    have h1 := h r (by simp)
    have h2 := ih (fun x hx => h x (by simp [hx]))
    have h3 := (stf_len r 0 (by omega)).2
    have h4 : flg.length = 8 := rfl
    unfold framed
    simp only [List.length_append, List.length_cons, h4]
    omega
theorem mem_take {ls : List (List Int)} {k : Nat} (h : ∀ j : Nat, j < k → bad (ls[j]?.getD []) = 0) : ∀ r ∈ ls.take k, bad r = 0 := by
  intro r hr
  obtain ⟨j, hj, rfl⟩ := List.getElem_of_mem hr
  rw [List.length_take] at hj
  have := h j (by omega)
  rw [List.getElem?_eq_getElem (by omega)] at this
  rw [List.getElem_take]
  exact this
theorem flag_bad : ∀ rs : List (List Int), (∀ r ∈ rs, bad r = 0) → binl (flg ++ framed rs) = true := by
  intro rs h
  have := framed_bits rs (fun r hr => (bad_zero (h r hr)).2)
  unfold binl at *
  rw [List.all_append, this]
  rfl

/-- What holds ahead of row k. -/
structure At (w0 wr : World) (ls : List (List Int)) (k : Nat) (s4 s5 : Value) : Prop where
  own : OwnI wr w0.heap.size s4 (flg ++ framed (ls.take k))
  want : OwnF w0 wr s5 (full (ls.take k))
  apt : Apt s4 s5
  ok : ∀ j : Nat, j < k → bad (ls[j]?.getD []) = 0
  below : Below w0.heap.size w0 wr

theorem At.len {w0 wr : World} {ls : List (List Int)} {k : Nat} {s4 s5 : Value} (h : At w0 wr ls k s4 s5) (hk : k ≤ ls.length) : (flg ++ framed (ls.take k)).length ≤ 8 + 248 * k := by
  have := framed_len (ls.take k) (fun r hr => (bad_zero (mem_take h.ok r hr)).1)
  have h2 : (ls.take k).length = k := by rw [List.length_take]; omega
  have h4 : flg.length = 8 := rfl
  rw [List.length_append, h4]
  rw [h2] at this
  omega
theorem At.full_len {w0 wr : World} {ls : List (List Int)} {k : Nat} {s4 s5 : Value} (h : At w0 wr ls k s4 s5) (hk : k ≤ ls.length) : (full (ls.take k)).length ≤ k := by
  have : (full (ls.take k)).length ≤ (ls.take k).length := List.length_filter_le _ _
  rw [List.length_take] at this
  omega

set_option maxHeartbeats 4000000 in
theorem law_any (p : Option Addr) (cap : Nat) (ls : List (List Int)) (w : World) (h : RowsI w p cap ls) (hsm : ls.length ≤ 1048576) :
    Calls Try.prog 5 #[.slice p ls.length cap] w fun e w' => e = .returned (.bool true) ∧ Below w.heap.size w w' := by
  have hlen := h.len_le
  go_enter Try.func5, Try.ntmps5
  go_wp2_with fail
  refine (fact_any _).mono ?_; rintro e w1 ⟨rfl, hb1⟩
  go_wp2_with fail
  refine (rflag_any w1).mono ?_; rintro e w2 ⟨rfl, hf2, hb2⟩
  have hA0 : At w w2 ls 0 (.slice (some ⟨w1.heap.size, 0, none⟩) 8 8) (.slice none 0 0) := ⟨by simpa [framed] using own_mono hf2 hb1.size, OwnF.nil _ _, Apt.nil _, fun j hj => absurd hj (Nat.not_lt_zero _), bcall hb1 hb2⟩
  clear hf2 hb1 hb2
  go_wp2_with fail
  go_loopw [4, 5, 6] (fun s4 s5 i wr => ∃ k : Nat, k ≤ ls.length ∧ i = .int .i64 k ∧ Hid (At w wr ls k s4 s5)) (fun _ _ i _ => ls.length - (intOf i).toNat)
  case atStart => exact ⟨0, Nat.zero_le _, rfl, hA0⟩
  case round =>
    clear hA0
    obtain ⟨k, hk, rfl, HA⟩ := hrel
    have hB := HA.out.below
    have hBs := hB.size
    by_cases hlt : k < ls.length
    · obtain ⟨b, off, rfl, hbw, hc⟩ := h.2.2 (by omega)
      obtain ⟨q, c, hck, hir⟩ := hc k hlt
      have cellAt := Lib.hid (fun W (hW : Below w.heap.size w W) => (hW.cell (p := ⟨b, off + k, none⟩) hbw).trans hck)
      have hc0 := cellAt.out wr hB
      have TK := Lib.hid (take_snoc ls k hlt)
      obtain ⟨r, hr⟩ : ∃ r, ls[k]?.getD [] = r := ⟨_, rfl⟩
      rw [hr] at hc0 hir TK cellAt
      have Hr := Lib.hid hr
      have hlr := hir.len_le
      have HI := Lib.hid hir
      clear hc hck hr hir h
      by_cases hbd : bad r = 0
      · have S := Lib.hid (stuff_ok q c r.length r wr rfl (HI.out.below hB) hbd)
        have hol := HA.out.len hk
        have hfl := HA.out.full_len hk
        have hsl := (stf_len r 0 (by omega)).2
        have hrl := (bad_zero hbd).1
        have OK' := Lib.hid (show ∀ j : Nat, j < k + 1 → bad (ls[j]?.getD []) = 0 from fun j hj => by
          by_cases e : j = k
          · rw [e, Hr.out]; exact hbd
          · exact HA.out.ok j (by omega))
        clear hbd
        go_wp2_with fail
        refine S.out.mono ?_; rintro e w2 ⟨v, rfl, ho2, hb2⟩
        obtain ⟨p2, c2, rfl, hi2⟩ := ho2.form
        have hlm := hi2.len_le
        have hB2 := hB.trans (hb2.mono hBs)
        have hB2s := hB2.size
        have o2 := HA.out.own.below hb2
        have f2 := HA.out.want.below hb2
        have a2 := HA.out.apt
        have L1 := Lib.hid hol
        have ES := Lib.hid (framed_snoc (ls.take k) r)
        have FS := Lib.hid (full_snoc (ls.take k) r)
        rw [← TK.out] at ES FS
        clear HA ho2 S TK
        obtain ⟨X, hX⟩ : ∃ X, flg ++ framed (ls.take k) = X := ⟨_, rfl⟩
        obtain ⟨Y, hY⟩ : ∃ Y, full (ls.take k) = Y := ⟨_, rfl⟩
        obtain ⟨m, hm⟩ : ∃ m, stf 0 r = m := ⟨_, rfl⟩
        have EX := Lib.hid (show flg ++ framed (ls.take (k + 1)) = X ++ m ++ flg by rw [ES.out, ← hX, ← hm]; simp)
        have FY := Lib.hid (show full (ls.take (k + 1)) = if 0 < r.length then Y ++ [r] else Y by rw [FS.out, ← hY])
        rw [hX] at o2 hol
        rw [hY] at f2 hfl
        rw [hm] at hi2 hsl hlm
        rw [hm]
        clear hX hY hm ES FS L1
        go_wp2_with (at_builtin
                     refine wp_app rfl (.tmp 34) (.tmp 35) rfl w.heap.size _ X p2 c2 m.length m rfl o2 rfl rfl hi2 (by omega) hB2s ?_
                     intro v4 w3 o3 hg3 hat3
                     have hB3 : Below w.heap.size w w3 := below_app hB2 o2 hg3 hB2s
                     have f3 := f2.more hg3 a2.symm.ne
                     have a3 : Apt _ v4 := a2.symm.grow (fun k hk => (f2.lt k hk).2) (Nat.le_refl _) hat3
                     clear hg3 hat3 f2 o2 a2)
        refine (rflag_any w3).mono ?_; rintro e w4 ⟨rfl, hf4, hb4⟩
        have hB4 := hB3.trans (hb4.mono hB3.size)
        have hB4s := hB4.size
        have o4 := o3.below hb4
        have f4 := f3.below hb4
        obtain ⟨pf, cf, ef, hif⟩ := hf4.form
        injection ef with e1 e2 e3
        subst e1; subst e3
        clear e2 hf4 o3 f3
        have h8 : flg.length = 8 := rfl
        by_cases h0 : 0 < r.length
        · have t0 : decide ((0 : Int) < (r.length : Int)) = true := decide_eq_true (by omega)
          have FY' := Lib.hid (FY.out.trans (if_pos h0))
          go_wp2_with (first
            | (at_builtin
               refine wp_app rfl (.tmp 37) (.tmp 38) rfl w.heap.size _ (X ++ m) (some ⟨w3.heap.size, 0, none⟩) 8 8 flg rfl o4 rfl h8.symm hif (by rw [List.length_append]; omega) hB4s ?_
               intro v5 w5 o5 hg5 hat5
               have hB5 : Below w.heap.size w w5 := below_app hB4 o4 hg5 hB4s
               have f5 := f4.more hg5 a3.ne
               have a5 : Apt _ v5 := a3.grow (fun k hk => (f4.lt k hk).2) (Nat.le_refl _) hat5
               have hB5s := hB5.size
               have hc5 := cellAt.out w5 hB5
               have hc6 := alloc_cell w5 (.slice q r.length c) 22
               clear hg5 hat5 f4 o4 a3)
            | (at_builtin
               refine wp_appF (w0 := w) rfl (.tmp 46) (.tmp 51) rfl _ Y ⟨w5.heap.size, 0, none⟩ q r.length c r rfl (f5.below (balloc (brefl w5) _)) rfl hc6 rfl HI.out (by omega) (Nat.le_trans hB5s (by simp)) ?_
               intro v6 w6 f6 hg6 hat6
               have hB6 : Below w.heap.size w w6 := below_appF (hB5.alloc hB5s _) (f5.below (balloc (brefl w5) _)) hg6
               have o6 := (o5.below (balloc (brefl w5) (.cells #[.slice q r.length c] 22))).more hg6 a5.symm.ne
               have a6 : Apt _ v6 := a5.symm.grow (fun k hk => (o5.lt k hk).2) (by simp) hat6))
          go_roundw
          case rel => exact ⟨k + 1, by omega, by go_num, ⟨by rw [EX.out]; exact o6, by rw [FY'.out]; exact f6, a6, OK'.out, hB6⟩⟩
          case measure => simp [intOf]; omega
        · have t0 : decide ((0 : Int) < (r.length : Int)) = false := decide_eq_false (by omega)
          have FY' := Lib.hid (FY.out.trans (if_neg h0))
          go_wp2_with (at_builtin
                       refine wp_app rfl (.tmp 37) (.tmp 38) rfl w.heap.size _ (X ++ m) (some ⟨w3.heap.size, 0, none⟩) 8 8 flg rfl o4 rfl h8.symm hif (by rw [List.length_append]; omega) hB4s ?_
                       intro v5 w5 o5 hg5 hat5
                       have hB5 : Below w.heap.size w w5 := below_app hB4 o4 hg5 hB4s
                       have f5 := f4.more hg5 a3.ne
                       have a5 : Apt _ v5 := a3.grow (fun k hk => (f4.lt k hk).2) (Nat.le_refl _) hat5
                       have hB5s := hB5.size
                       have hc5 := cellAt.out w5 hB5
                       clear hg5 hat5 f4 o4 a3)
          go_roundw
          case rel => exact ⟨k + 1, by omega, by go_num, ⟨by rw [EX.out]; exact o5, by rw [FY'.out]; exact f5, a5.symm, OK'.out, hB5⟩⟩
          case measure => simp [intOf]; omega
      · have S := Lib.hid (stuff_bad q c r.length r wr rfl (HI.out.below hB) (bad r) rfl hbd)
        clear hbd
        go_wp2_with fail
        refine S.out.mono ?_; rintro e w2 ⟨rfl, rfl⟩
        go_wp2_with fail
        go_ret
        exact ⟨rfl, hB⟩
    · obtain rfl : k = ls.length := by omega
      have hol := HA.out.len hk
      have FB := Lib.hid (flag_bad (ls.take ls.length) (mem_take HA.out.ok))
      have hfw := HA.out.want
      obtain ⟨p4, c4, rfl, hi4⟩ := HA.out.own.form
      rw [List.take_length] at hi4 hol FB hfw
      rw [List.take_length]
      have FF := Lib.hid (frames_framed ls)
      obtain ⟨X, hX⟩ : ∃ X, flg ++ framed ls = X := ⟨_, rfl⟩
      rw [hX] at hi4 hol FB FF
      rw [hX]
      clear hX HA h
      have hlx := hi4.len_le
      by_cases hx : X.length ≤ 200
      · have S := Lib.hid (frames_ok p4 c4 X.length X wr rfl hi4 (bad_of hx FB.out))
        go_wp2_with fail
        refine S.out.mono ?_; rintro e w2 ⟨v, rfl, ho2, hb2⟩
        rw [FF.out] at ho2
        have hB2 := hB.trans (hb2.mono hBs)
        obtain ⟨p2, c2, rfl, hr2⟩ := ho2.form
        obtain ⟨p5, c5, rfl, hr5⟩ := (hfw.below hb2).form hB2
        have hl2 := hr2.len_le
        have hl5 := hr5.len_le
        have R := Lib.hid (rows_any p2 p5 c2 c5 _ _ _ _ w2 rfl rfl hr2 hr5 true (by rw [eq_comm, beq_iff_eq]; rfl))
        clear ho2 hr2 hr5 hfw S
        go_wp2_with fail
        refine R.out.mono ?_; rintro e w3 ⟨rfl, hb3⟩
        go_wp2_with fail
        go_ret
        exact ⟨rfl, hB2.trans (hb3.mono hB2.size)⟩
      · have S := Lib.hid (frames_bad p4 c4 X.length X wr rfl hi4 4 (by unfold bad; rw [if_pos (by omega)]) (by decide))
        have t1 : decide ((200 : Int) < (X.length : Int)) = true := decide_eq_true (by omega)
        go_wp2_with fail
        refine S.out.mono ?_; rintro e w2 ⟨rfl, rfl⟩
        go_wp2_with fail
        go_ret
        exact ⟨rfl, hB⟩

theorem reads : Try.f5.params.toList.all (fun t => Try.prog.readableRec t && decide (t < Try.prog.types.size)) = true := by kernel_rfl

theorem contract (H : Type) (enc : TypeId × Value → H) (W : World) (base : Nat) (args : Array Value) (ds gs : List (DataW H)) (before : List MemPlace)
    (hval : ∀ (j : Nat) t v, Try.f5.params[j]? = some t → args[j]? = some v → Value.okWide Try.prog W .any base t v)
    (hW : DataW.Whole enc Try.prog Try.f5.params.toList Rows.stuffFramesSpec.vars false W args.toList ds gs before) (hk : Rows.uptoSmall H (ds ++ gs) = true) :
    Calls Try.prog 5 args W fun e W' => ∃ v, e = .returned v ∧ Rows.stuffFramesSpec.post enc Try.prog Try.f5 false true false false W args v W' := by
  have hW' := hW
  obtain ⟨p, q, hA0, hV, rfl, hfz, hnd⟩ := hW
  have hA : DataW.TrodAll enc Try.prog W 0 (fun _ => true) true Try.f5.params.toList args.toList ds p := hA0
  have hlt := hA.lt
  rw [Try.params5] at hA hval
  obtain ⟨v0, vs0, d0, ds0, p0, q0, hargs, rfl, rfl, h0, r0⟩ := trodAll_cons hA
  obtain ⟨hvsn, rfl, rfl⟩ := trodAll_nil r0
  simp only [hvsn] at hargs
  obtain rfl : args = #[v0] := by cases args; simp_all
  obtain ⟨rfl, rfl⟩ := trodVars_none hV
  clear hA0
  obtain ⟨p0a, cap0, l0, rfl, i0, e0⟩ := open_rows Try.underlying31 Try.underlying22 Try.underlying3 (by kernel_rfl) (by kernel_rfl) (hval 0 31 v0 rfl rfl) h0 (fun x hx => hlt x (by simp [hx]))
  exact law_post 4 laid reads rfl Try.underlying4 rfl hW' ⟨rfl, rfl, rfl⟩ (law_any p0a cap0 l0 W i0 (small_of hk e0))

set_option maxRecDepth 100000 in
theorem lifted (os : Os) (started : os.Started) (H : Type) (enc : TypeId × Value → H) (F : Stop.Interp) :
    ReturnsInHanded {} Try.checked os 5 .any ((Rows.OpenSpec.upto Rows.stuffFramesSpec).pre6 enc Try.prog Try.f5 Rows.stuffFramesUptoRow.domain false) (((Rows.OpenSpec.upto Rows.stuffFramesSpec).at F).post enc Try.prog Try.f5 false true false false) := by
  refine returnsInHanded_of_cond (C := Try.checked) (s := Rows.OpenSpec.upto Rows.stuffFramesSpec) (k := Rows.uptoSmall) rfl own started (by kernel_rfl) Try.func5
    (OpenSpec.witness (enc := enc) (C := Try.checked) (s := Rows.OpenSpec.upto Rows.stuffFramesSpec) (k := Rows.uptoSmall) rfl false ⟨#[], #[.slice none 0 0], []⟩ 8 (by kernel_rfl) (by kernel_rfl) (by kernel_rfl)
      (x := ([.nil], [], [])) (by kernel_rfl) rfl (by kernel_rfl)) ?_
  intro W base args ds gs before hval hW _ hk _
  exact contract H enc W base args ds gs before hval hW hk

theorem proved : Rows.StuffFramesUptoSaid :=
  OpenClaim.holds_of_cond 5 Try.f5 rfl rfl rfl rfl rfl rfl rfl ⟨rfl, rfl, rfl, rfl, rfl⟩ rfl rfl rfl rfl rfl (by kernel_rfl) Try.func5 (by kernel_rfl)
    (of_decide_eq_true (by kernel_rfl)) (by unfold Func.isWrapper; first | (rw [if_pos (by decide +kernel)]; kernel_rfl) | (rw [if_neg (by decide +kernel)]; exact ⟨rfl, rfl⟩))
    (fun os started H enc _ F => lifted os started H enc F)

end Go.Proofs.Ytfgkbogccaiceaa.stuffFramesP
