/- RenoPlays: for any sequence of acknowledgments, losses and timeouts, window and threshold are as specified: the law returns true for every input. No condition. -/
import Derived.Test.YtbemlbjnjpjlhaaRenoLaw
import Derived.Test.YtbemlbjnjpjlhaaRenoRef
namespace Go.Proofs.Ytbemlbjnjpjlhaa.RenoPlaysL
open Go.ChangeShapes Go.WideShapes Go.ChangeAt Go.RowKit Go.Proofs.Ytbemlbjnjpjlhaa.Kit Go.Proofs.Ytbemlbjnjpjlhaa.App Go.Proofs.Ytbemlbjnjpjlhaa.Err Go.Proofs.Ytbemlbjnjpjlhaa.Reno
set_option linter.unusedVariables false
set_option maxRecDepth 20000

abbrev Law (p : Option Addr) (n cap : Nat) (w : World) : Prop := Calls Try.prog 5 #[.slice p n cap] w fun e w' => e = .returned (.bool true) ∧ Below w.heap.size w w'
theorem doc_of {w : World} {g : Nat} {a b k : Int} (h : Blk 32 w g [.int .i64 a, .int .i64 b, .int .i64 k]) : Doc w g (a, b, k) := h
theorem blk_of {w : World} {g : Nat} {a b k : Int} (h : Doc w g (a, b, k)) : Blk 32 w g [.int .i64 a, .int .i64 b, .int .i64 k] := h
set_option maxHeartbeats 4000000 in
theorem core (p0 : Option Addr) (cap n : Nat) (l : List Int) (w : World) (hn : n = l.length) (hi : Ints w p0 cap l) : Law p0 n cap w := by
  have hcap := hi.len_le
  rw [← hn] at hcap
  have HI := Lib.hid hi
  have HN := Lib.hid hn
  clear hi hn
  have NW := Lib.hid (new_any w)
  unfold Law
  go_enter Try.func5, Try.ntmps5
  go_wp2_with fail
  refine NW.out.mono ?_; rintro e w1 ⟨rfl, hT1, hb1⟩
  have HT1 := Lib.hid hT1
  have hgl := hT1.lt
  obtain ⟨g, hg⟩ : ∃ g, w.heap.size = g := ⟨_, rfl⟩
  have HG := Lib.hid (Nat.le_of_eq hg)
  rw [hg] at HT1 hgl
  rw [hg] at ⊢
  clear hg hT1 NW
  go_wp2_with fail
  obtain ⟨xb, hxb⟩ : ∃ b, w1.heap.size = b := ⟨_, rfl⟩
  have HX1 : Hid (Blk 32 _ _ [.int .i64 1, .int .i64 1000, .int .i64 0]) := Lib.hid (Blk.new w1 32 [.int .i64 1, .int .i64 1000, .int .i64 0])
  rw [hxb] at HX1 hgl ⊢
  have HT2 := Lib.hid (HT1.out.alloc (.cells #[.int .i64 1, .int .i64 1000, .int .i64 0] 32))
  have HB2 := Lib.hid (balloc hb1 (.cells #[.int .i64 1, .int .i64 1000, .int .i64 0] 32))
  have HNE := Lib.hid (Nat.ne_of_lt hgl)
  have HWB := Lib.hid (Nat.le_trans hb1.size (Nat.le_of_eq hxb))
  clear hxb HT1 hb1
  generalize w1.alloc (.cells #[.int .i64 1, .int .i64 1000, .int .i64 0] 32) = w2 at HX1 HT2 HB2 ⊢
  go_loopw [5] (fun iv wr => ∃ j : Nat, iv = .int .i64 (j : Int) ∧ j ≤ n ∧ ∃ a b k, Hid (Flw wr g (a, b, k)) ∧ Hid (Blk 32 wr xb [.int .i64 a, .int .i64 b, .int .i64 k]) ∧ Hid (Ok (a, b, k)) ∧ Hid (Below w.heap.size w wr)) (fun i _ => n - (intOf i).toNat)
  case atStart => exact ⟨0, rfl, Nat.zero_le _, 1, 1000, 0, HT2, HX1, Lib.hid ok_new, HB2⟩
  case round =>
    obtain ⟨j, rfl, hj, a, b, k, HT, HX, HO, HB⟩ := hrel
    clear HT2 HX1 HB2
    have x0 := HX.out.cell 0 _ rfl
    have x1 := HX.out.cell 1 _ rfl
    have x2 := HX.out.cell 2 _ rfl
    by_cases hjn : j < n
    · have t1 : decide ((j : Int) < (n : Int)) = true := decide_eq_true (by omega)
      by_cases hj60 : j < 400
      · have t2 : decide ((j : Int) < 400) = true := decide_eq_true (by omega)
        clear x0 x1 x2
        obtain ⟨bb, off, rfl, hbb, hcs⟩ := HI.out.2.2.2 (by rw [← HN.out]; omega)
        have hc0 := hcs j (by rw [← HN.out]; omega)
        generalize l[j]?.getD 0 = x at hc0
        by_cases hx0 : x = 0
        · subst hx0
          have KX := Lib.hid (fun W' (hb : Below w.heap.size w W') => show W'.cell? ⟨bb, off + j, none⟩ = some (.int .i64 0) from (hb.cell (p := ⟨bb, off + j, none⟩) hbb).trans hc0)
          have hc := KX.out wr HB.out
          clear hcs hc0 hbb
          have C := Lib.hid (told_any g (a, b, k) wr HT.out HO.out)
          have D := Lib.hid (fun W => do_told a b k W HO.out)
          have HO4 := Lib.hid (ok_told HO.out)
          generalize Reno.told (a, b, k) = s4 at C D HO4
          obtain ⟨a4, b4, k4⟩ := s4
          have D : Hid (∀ W, Calls Try.prog 14 #[.agg #[.int .i64 a, .int .i64 b, .int .i64 k], .int .i64 0] W fun e w' => e = .returned (.agg #[.int .i64 a4, .int .i64 b4, .int .i64 k4]) ∧ Below W.heap.size W w') := D
          go_wp2_with fail
          refine C.out.mono ?_; rintro e w3 ⟨rfl, hT3, hg3⟩
          have HT3 := Lib.hid hT3
          have hB3 := gbelow HB.out (Nat.le_refl _) hg3 HG.out
          have HX3 := Lib.hid (HX.out.more hg3 (fun e => HNE.out (Option.some.inj e).symm))
          have hx := KX.out w3 hB3
          have x0 := HX3.out.cell 0 _ rfl
          have x1 := HX3.out.cell 1 _ rfl
          have x2 := HX3.out.cell 2 _ rfl
          clear C hT3 hg3 HT HX HB HO hc
          go_wp2_with fail
          go_region_law (first
            | (go_simp; go_at_call 14; refine (D.out _).mono ?_; rintro e w8 ⟨rfl, hb8⟩
               have HX8 := Lib.hid (HX3.out.drew.below hb8)
               have HT8 := Lib.hid (HT3.out.drew.below hb8)
               have hB8 := bcall hB3.drew hb8
               have x0 := HX8.out.cell 0 _ rfl
               have x1 := HX8.out.cell 1 _ rfl
               have x2 := HX8.out.cell 2 _ rfl
               have f0 := HX8.out.fz 0
               have f1 := HX8.out.fz 1
               have f2 := HX8.out.fz 2))
          all_goals
            have HX9 : Hid (Blk 32 (((w8.setCell ⟨xb, 0, none⟩ (.int .i64 a4)).setCell ⟨xb, 1, none⟩ (.int .i64 b4)).setCell ⟨xb, 2, none⟩ (.int .i64 k4)) xb [.int .i64 a4, .int .i64 b4, .int .i64 k4]) := Lib.hid (((HX8.out.set 0 (.int .i64 a4)).set 1 (.int .i64 b4)).set 2 (.int .i64 k4))
            have HT9 := Lib.hid (((HT8.out.other xb 0 (.int .i64 a4) HNE.out).other xb 1 (.int .i64 b4) HNE.out).other xb 2 (.int .i64 k4) HNE.out)
            have hB9 := below_set (below_set (below_set hB8 xb 0 (.int .i64 a4) HWB.out) xb 1 (.int .i64 b4) HWB.out) xb 2 (.int .i64 k4) HWB.out
            clear x0 x1 x2 f0 f1 f2 HX8 HT8 hB8 hb8 hB3 HT3 HX3 hx
            generalize ((w8.setCell ⟨xb, 0, none⟩ (.int .i64 a4)).setCell ⟨xb, 1, none⟩ (.int .i64 b4)).setCell ⟨xb, 2, none⟩ (.int .i64 k4) = w9 at HX9 HT9 hB9 ⊢
            have C := Lib.hid (window_at g a4 b4 k4 w9 HT9.out)
            go_wp2_with fail
            refine C.out.mono ?_; rintro e w10 ⟨rfl, m10, rfl⟩
            have HT10 := Lib.hid (HT9.out.drewN m10)
            have HX10 := Lib.hid (HX9.out.drewN m10)
            have HB10 := Lib.hid (bdrewN hB9 m10)
            clear C HT9 HX9 hB9
            generalize w9.drewN m10 = w10 at HT10 HX10 HB10 ⊢
            have x0 := HX10.out.cell 0 _ rfl
            have x1 := HX10.out.cell 1 _ rfl
            have x2 := HX10.out.cell 2 _ rfl
            go_wp2_with fail
            go_roundw
            case rel => exact ⟨j + 1, by first | rfl | go_num, by omega, a4, b4, k4, HT10, HX10, HO4, HB10⟩
            case measure => simp [intOf]; omega
        · have t3 : (x == 0) = false := by rw [beq_eq_false_iff_ne]; exact hx0
          by_cases hx1 : x = 1
          · subst hx1
            clear hx0 t3
            have KX := Lib.hid (fun W' (hb : Below w.heap.size w W') => show W'.cell? ⟨bb, off + j, none⟩ = some (.int .i64 1) from (hb.cell (p := ⟨bb, off + j, none⟩) hbb).trans hc0)
            have hc := KX.out wr HB.out
            clear hcs hc0 hbb
            have C := Lib.hid (lost_any g (a, b, k) wr HT.out HO.out)
            have D := Lib.hid (fun W => do_lost a b k W HO.out)
            have HO4 := Lib.hid (ok_lost HO.out)
            generalize Reno.lost (a, b, k) = s4 at C D HO4
            obtain ⟨a4, b4, k4⟩ := s4
            have D : Hid (∀ W, Calls Try.prog 14 #[.agg #[.int .i64 a, .int .i64 b, .int .i64 k], .int .i64 1] W fun e w' => e = .returned (.agg #[.int .i64 a4, .int .i64 b4, .int .i64 k4]) ∧ Below W.heap.size W w') := D
            go_wp2_with fail
            refine C.out.mono ?_; rintro e w3 ⟨rfl, hT3, hg3⟩
            have HT3 := Lib.hid hT3
            have hB3 := gbelow HB.out (Nat.le_refl _) hg3 HG.out
            have HX3 := Lib.hid (HX.out.more hg3 (fun e => HNE.out (Option.some.inj e).symm))
            have hx := KX.out w3 hB3
            have x0 := HX3.out.cell 0 _ rfl
            have x1 := HX3.out.cell 1 _ rfl
            have x2 := HX3.out.cell 2 _ rfl
            clear C hT3 hg3 HT HX HB HO hc
            go_wp2_with fail
            go_region_law (first
              | (go_simp; go_at_call 14; refine (D.out _).mono ?_; rintro e w8 ⟨rfl, hb8⟩
                 have HX8 := Lib.hid (HX3.out.drew.below hb8)
                 have HT8 := Lib.hid (HT3.out.drew.below hb8)
                 have hB8 := bcall hB3.drew hb8
                 have x0 := HX8.out.cell 0 _ rfl
                 have x1 := HX8.out.cell 1 _ rfl
                 have x2 := HX8.out.cell 2 _ rfl
                 have f0 := HX8.out.fz 0
                 have f1 := HX8.out.fz 1
                 have f2 := HX8.out.fz 2))
            all_goals
              have HX9 : Hid (Blk 32 (((w8.setCell ⟨xb, 0, none⟩ (.int .i64 a4)).setCell ⟨xb, 1, none⟩ (.int .i64 b4)).setCell ⟨xb, 2, none⟩ (.int .i64 k4)) xb [.int .i64 a4, .int .i64 b4, .int .i64 k4]) := Lib.hid (((HX8.out.set 0 (.int .i64 a4)).set 1 (.int .i64 b4)).set 2 (.int .i64 k4))
              have HT9 := Lib.hid (((HT8.out.other xb 0 (.int .i64 a4) HNE.out).other xb 1 (.int .i64 b4) HNE.out).other xb 2 (.int .i64 k4) HNE.out)
              have hB9 := below_set (below_set (below_set hB8 xb 0 (.int .i64 a4) HWB.out) xb 1 (.int .i64 b4) HWB.out) xb 2 (.int .i64 k4) HWB.out
              clear x0 x1 x2 f0 f1 f2 HX8 HT8 hB8 hb8 hB3 HT3 HX3 hx
              generalize ((w8.setCell ⟨xb, 0, none⟩ (.int .i64 a4)).setCell ⟨xb, 1, none⟩ (.int .i64 b4)).setCell ⟨xb, 2, none⟩ (.int .i64 k4) = w9 at HX9 HT9 hB9 ⊢
              have C := Lib.hid (window_at g a4 b4 k4 w9 HT9.out)
              go_wp2_with fail
              refine C.out.mono ?_; rintro e w10 ⟨rfl, m10, rfl⟩
              have HT10 := Lib.hid (HT9.out.drewN m10)
              have HX10 := Lib.hid (HX9.out.drewN m10)
              have HB10 := Lib.hid (bdrewN hB9 m10)
              clear C HT9 HX9 hB9
              generalize w9.drewN m10 = w10 at HT10 HX10 HB10 ⊢
              have x0 := HX10.out.cell 0 _ rfl
              have x1 := HX10.out.cell 1 _ rfl
              have x2 := HX10.out.cell 2 _ rfl
              go_wp2_with fail
              go_roundw
              case rel => exact ⟨j + 1, by first | rfl | go_num, by omega, a4, b4, k4, HT10, HX10, HO4, HB10⟩
              case measure => simp [intOf]; omega
          · have t4 : (x == 1) = false := by rw [beq_eq_false_iff_ne]; exact hx1
            by_cases hx2 : x = 2
            · subst hx2
              clear hx0 hx1 t3 t4
              have KX := Lib.hid (fun W' (hb : Below w.heap.size w W') => show W'.cell? ⟨bb, off + j, none⟩ = some (.int .i64 2) from (hb.cell (p := ⟨bb, off + j, none⟩) hbb).trans hc0)
              have hc := KX.out wr HB.out
              clear hcs hc0 hbb
              have C := Lib.hid (late_any g (a, b, k) wr HT.out HO.out)
              have D := Lib.hid (fun W => do_late a b k W HO.out)
              have HO4 := Lib.hid (ok_late HO.out)
              generalize Reno.late (a, b, k) = s4 at C D HO4
              obtain ⟨a4, b4, k4⟩ := s4
              have D : Hid (∀ W, Calls Try.prog 14 #[.agg #[.int .i64 a, .int .i64 b, .int .i64 k], .int .i64 2] W fun e w' => e = .returned (.agg #[.int .i64 a4, .int .i64 b4, .int .i64 k4]) ∧ Below W.heap.size W w') := D
              go_wp2_with fail
              refine C.out.mono ?_; rintro e w3 ⟨rfl, hT3, hg3⟩
              have HT3 := Lib.hid hT3
              have hB3 := gbelow HB.out (Nat.le_refl _) hg3 HG.out
              have HX3 := Lib.hid (HX.out.more hg3 (fun e => HNE.out (Option.some.inj e).symm))
              have hx := KX.out w3 hB3
              have x0 := HX3.out.cell 0 _ rfl
              have x1 := HX3.out.cell 1 _ rfl
              have x2 := HX3.out.cell 2 _ rfl
              clear C hT3 hg3 HT HX HB HO hc
              go_wp2_with fail
              go_region_law (first
                | (go_simp; go_at_call 14; refine (D.out _).mono ?_; rintro e w8 ⟨rfl, hb8⟩
                   have HX8 := Lib.hid (HX3.out.drew.below hb8)
                   have HT8 := Lib.hid (HT3.out.drew.below hb8)
                   have hB8 := bcall hB3.drew hb8
                   have x0 := HX8.out.cell 0 _ rfl
                   have x1 := HX8.out.cell 1 _ rfl
                   have x2 := HX8.out.cell 2 _ rfl
                   have f0 := HX8.out.fz 0
                   have f1 := HX8.out.fz 1
                   have f2 := HX8.out.fz 2))
              all_goals
                have HX9 : Hid (Blk 32 (((w8.setCell ⟨xb, 0, none⟩ (.int .i64 a4)).setCell ⟨xb, 1, none⟩ (.int .i64 b4)).setCell ⟨xb, 2, none⟩ (.int .i64 k4)) xb [.int .i64 a4, .int .i64 b4, .int .i64 k4]) := Lib.hid (((HX8.out.set 0 (.int .i64 a4)).set 1 (.int .i64 b4)).set 2 (.int .i64 k4))
                have HT9 := Lib.hid (((HT8.out.other xb 0 (.int .i64 a4) HNE.out).other xb 1 (.int .i64 b4) HNE.out).other xb 2 (.int .i64 k4) HNE.out)
                have hB9 := below_set (below_set (below_set hB8 xb 0 (.int .i64 a4) HWB.out) xb 1 (.int .i64 b4) HWB.out) xb 2 (.int .i64 k4) HWB.out
                clear x0 x1 x2 f0 f1 f2 HX8 HT8 hB8 hb8 hB3 HT3 HX3 hx
                generalize ((w8.setCell ⟨xb, 0, none⟩ (.int .i64 a4)).setCell ⟨xb, 1, none⟩ (.int .i64 b4)).setCell ⟨xb, 2, none⟩ (.int .i64 k4) = w9 at HX9 HT9 hB9 ⊢
                have C := Lib.hid (window_at g a4 b4 k4 w9 HT9.out)
                go_wp2_with fail
                refine C.out.mono ?_; rintro e w10 ⟨rfl, m10, rfl⟩
                have HT10 := Lib.hid (HT9.out.drewN m10)
                have HX10 := Lib.hid (HX9.out.drewN m10)
                have HB10 := Lib.hid (bdrewN hB9 m10)
                clear C HT9 HX9 hB9
                generalize w9.drewN m10 = w10 at HT10 HX10 HB10 ⊢
                have x0 := HX10.out.cell 0 _ rfl
                have x1 := HX10.out.cell 1 _ rfl
                have x2 := HX10.out.cell 2 _ rfl
                go_wp2_with fail
                go_roundw
                case rel => exact ⟨j + 1, by first | rfl | go_num, by omega, a4, b4, k4, HT10, HX10, HO4, HB10⟩
                case measure => simp [intOf]; omega
            · have t5 : (x == 2) = false := by rw [beq_eq_false_iff_ne]; exact hx2
              clear hx0 hx1 hx2
              have KX := Lib.hid (fun W' (hb : Below w.heap.size w W') => show W'.cell? ⟨bb, off + j, none⟩ = some (.int .i64 x) from (hb.cell (p := ⟨bb, off + j, none⟩) hbb).trans hc0)
              have hc := KX.out wr HB.out
              clear hcs hc0 hbb
              go_wp2_with fail
              go_roundw
              case rel => exact ⟨j + 1, by first | rfl | go_num, by omega, a, b, k, HT, HX, HO, HB⟩
              case measure => simp [intOf]; omega
      · have t2 : decide ((j : Int) < 400) = false := decide_eq_false (by omega)
        have C := Lib.hid (window_at g a b k wr HT.out)
        go_wp2_with fail
        refine C.out.mono ?_; rintro e w10 ⟨rfl, m10, rfl⟩
        have HX10 := Lib.hid (HX.out.drewN m10)
        have HB10 := Lib.hid (bdrewN HB.out m10)
        clear C HT HX HB
        generalize wr.drewN m10 = w10 at HX10 HB10 ⊢
        have x0 := HX10.out.cell 0 _ rfl
        have x1 := HX10.out.cell 1 _ rfl
        have x2 := HX10.out.cell 2 _ rfl
        go_wp2_with fail
        go_ret
        exact ⟨by first | rfl | simp, HB10.out⟩
    · have t1 : decide ((j : Int) < (n : Int)) = false := decide_eq_false (by omega)
      have C := Lib.hid (window_at g a b k wr HT.out)
      go_wp2_with fail
      refine C.out.mono ?_; rintro e w10 ⟨rfl, m10, rfl⟩
      have HX10 := Lib.hid (HX.out.drewN m10)
      have HB10 := Lib.hid (bdrewN HB.out m10)
      clear C HT HX HB
      generalize wr.drewN m10 = w10 at HX10 HB10 ⊢
      have x0 := HX10.out.cell 0 _ rfl
      have x1 := HX10.out.cell 1 _ rfl
      have x2 := HX10.out.cell 2 _ rfl
      go_wp2_with fail
      go_ret
      exact ⟨by first | rfl | simp, HB10.out⟩

theorem reads : Try.f5.params.toList.all (fun t => Try.prog.readableRec t && decide (t < Try.prog.types.size)) = true := by kernel_rfl

theorem contract (H : Type) (enc : TypeId × Value → H) (W : World) (base : Nat) (args : Array Value) (ds gs : List (DataW H)) (before : List MemPlace)
    (hval : ∀ (j : Nat) t v, Try.f5.params[j]? = some t → args[j]? = some v → Value.okWide Try.prog W .any base t v)
    (hW : DataW.Whole enc Try.prog Try.f5.params.toList Rows.renoPlaysSpec.vars false W args.toList ds gs before) :
    Calls Try.prog 5 args W fun e W' => ∃ v, e = .returned v ∧ Rows.renoPlaysSpec.post enc Try.prog Try.f5 false true false false W args v W' := by
  have hW' := hW
  obtain ⟨p, q, hA0, hV, rfl, hfz, hnd⟩ := hW
  have hA : DataW.TrodAll enc Try.prog W 0 (fun _ => true) true Try.f5.params.toList args.toList ds p := hA0
  have hlt := hA.lt
  rw [Try.params5] at hA hval
  obtain ⟨v0, vs0, d0, ds0, p0, q0, hargs, rfl, rfl, h0, r0⟩ := trodAll_cons hA
  obtain ⟨hvsn, rfl, rfl⟩ := trodAll_nil r0
  simp only [hvsn] at hargs
  obtain rfl : args = #[v0] := by cases args; simp_all
  obtain ⟨rfl, rfl⟩ := trodVars_none hV
  clear hA0
  obtain ⟨p0a, cap0, l0, rfl, i0⟩ := open_intsl Try.underlying22 Try.underlying3 (by kernel_rfl) (hval 0 22 v0 rfl rfl) h0 (fun x hx => hlt x (by simp [hx]))
  exact law_post 4 laid reads rfl Try.underlying4 rfl hW' ⟨rfl, rfl, rfl⟩ (core p0a cap0 _ l0 W rfl i0)

set_option maxRecDepth 100000 in
theorem lifted (os : Os) (started : os.Started) (H : Type) (enc : TypeId × Value → H) :
    ReturnsInHanded {} Try.checked os 5 .any (Rows.renoPlaysSpec.pre6 enc Try.prog Try.f5 Rows.renoPlaysRow.domain false) (Rows.renoPlaysSpec.post enc Try.prog Try.f5 false true false false) := by
  refine returnsInHanded_of_change (C := Try.checked) own started (by kernel_rfl) Try.func5
    (ChangeSpec.witness6 (enc := enc) (C := Try.checked) false ⟨#[], #[.slice none 0 0], []⟩ 8 (by kernel_rfl) (by kernel_rfl) (by kernel_rfl) (by kernel_rfl)) ?_
  intro W base args ds gs before hval hW _ _
  exact contract H enc W base args ds gs before hval hW

theorem proved : Rows.RenoPlaysSaid :=
  OpenClaim.holds_of_wide 5 Try.f5 rfl rfl rfl rfl rfl rfl rfl ⟨rfl, rfl, rfl, rfl, rfl⟩ rfl rfl rfl rfl rfl (by kernel_rfl) Try.func5 (by kernel_rfl)
    (of_decide_eq_true (by kernel_rfl)) (by unfold Func.isWrapper; first | (rw [if_pos (by decide +kernel)]; kernel_rfl) | (rw [if_neg (by decide +kernel)]; exact ⟨rfl, rfl⟩))
    (fun os started H enc _ => lifted os started H enc)
end Go.Proofs.Ytbemlbjnjpjlhaa.RenoPlaysL
