/- DrrOnce: every packet is served exactly once: for every input. No condition. -/
import Derived.Test.YtcdiejalplgclaaDrrLaw
import Derived.BigQuiet
namespace Go.Proofs.Ytcdiejalplgclaa.DrrOnceL
open Go.ChangeShapes Go.WideShapes Go.ChangeAt Go.RowKit Go.Proofs.Ytcdiejalplgclaa.Kit Go.Proofs.Ytcdiejalplgclaa.App Go.Proofs.Ytcdiejalplgclaa.Err Go.Proofs.Ytcdiejalplgclaa.Drr
set_option linter.unusedVariables false
set_option maxRecDepth 20000
set_option maxHeartbeats 2000000
abbrev Law (p : Option Addr) (n cap : Nat) (Q : Int) (w : World) : Prop := Calls Try.prog 3 #[.slice p n cap, .int .i64 Q] w fun e w' => e = .returned (.bool true) ∧ Below w.heap.size w w'
theorem law_bad (p : Option Addr) (n cap : Nat) (ls : List (List Int)) (Q : Int) (w : World) (hn : n = ls.length) (hi : RowsI w p cap ls) (c : Int) (hc : codeQ ls Q = c) (h0 : c ≠ 0) : Law p n cap Q w := by
  have RU := Lib.hid (fun W (hW : Below w.heap.size w W) => run_any p cap n ls Q W hn (hi.below hW) c hc [] (fun h => absurd h h0) (fun _ => rfl) 0 rfl)
  rw [er_ne h0] at RU
  clear hn hi hc h0
  have FA := Lib.hid (fact_any w)
  unfold Law
  go_enter Try.func3, Try.ntmps3
  go_wp2_with fail
  refine FA.out.mono ?_; rintro e w1 ⟨rfl, hb1⟩
  clear FA
  go_wp2_with fail
  refine (RU.out w1 hb1).mono ?_; rintro e w2 ⟨⟨r, cr, rfl, _⟩, hb2⟩
  have HB2 := Lib.hid (bcall hb1 hb2)
  clear RU hb1 hb2
  go_wp2_with fail
  go_ret
  exact ⟨by first | rfl | simp, HB2.out⟩
theorem law_good (p : Option Addr) (n cap : Nat) (ls : List (List Int)) (Q : Int) (w : World) (hn : n = ls.length) (hi : RowsI w p cap ls) (hz : codeQ ls Q = 0) : Law p n cap Q w := by
  obtain ⟨hg, hQ⟩ := codeQ_zero.1 hz
  obtain ⟨N, L, hL⟩ := runs_of hg hQ.1
  obtain ⟨k, hk⟩ : ∃ k, L.length = k := ⟨_, rfl⟩
  have RU := Lib.hid (fun W (hW : Below w.heap.size w W) => run_any p cap n ls Q W hn (hi.below hW) 0 hz L (fun _ => ⟨N, hL⟩) (fun h => absurd rfl h) k hk)
  rw [er_0] at RU
  obtain ⟨hc1, hc2, hc3⟩ := once_all hL
  rw [hk] at hc2
  have HO := Lib.hid hc1
  have TH := Lib.hid (fun W (hW : Below w.heap.size w W) => things_any p cap n ls W hn (hi.below hW) hg k hc2.symm)
  have HI := Lib.hid (rows_at hi)
  have HN := Lib.hid hn
  have HK := Lib.hid hk
  have hn5 : n ≤ 5 := by rw [hn]; exact hg.1
  have HG := Lib.hid hg
  clear hn hi hz hL hk hc1 hc2 hc3 hg hQ
  have FA := Lib.hid (fact_any w)
  unfold Law
  go_enter Try.func3, Try.ntmps3
  go_wp2_with fail
  refine FA.out.mono ?_; rintro e w1 ⟨rfl, hb1⟩
  clear FA
  go_wp2_with fail
  refine (RU.out w1 hb1).mono ?_; rintro e w2 ⟨⟨r, cr, rfl, hI⟩, hb2⟩
  have HL := Lib.hid hI
  have HB2 := Lib.hid (bcall hb1 hb2)
  clear RU hb1 hb2 hI
  go_wp2_with fail
  go_loopw [8] (fun iv wr => ∃ j : Nat, j ≤ n ∧ iv = .int .i64 j ∧ Hid (∃ m, wr = w2.drewN m)) (fun i _ => n - (intOf i).toNat)
  case atStart => exact ⟨0, Nat.zero_le _, rfl, Lib.hid ⟨0, rfl⟩⟩
  case round =>
    obtain ⟨j, hj, rfl, HD⟩ := hrel
    have HB : Hid (Below w.heap.size w wr) := Lib.hid (by obtain ⟨m, rfl⟩ := HD.out; exact bdrewN HB2.out m)
    have HL2 : Hid (Ints wr r cr L) := Lib.hid (by obtain ⟨m, rfl⟩ := HD.out; exact HL.out.below (bdrewN (brefl w2) m))
    by_cases hjn : j < n
    · have u1 : decide ((j : Int) < (n : Int)) = true := decide_eq_true (by omega)
      have hjl : j < ls.length := by rw [← HN.out]; exact hjn
      obtain ⟨b, off, rfl, hcc⟩ := HI.out (by omega)
      obtain ⟨q, c1, hck, _⟩ := hcc wr HB.out j hjl
      have hm8 := (HG.out.row j).1
      obtain ⟨m, hm⟩ : ∃ m, (row ls j).length = m := ⟨_, rfl⟩
      have CO := Lib.hid (fun i => count_any r cr k L (j : Int) (wr.drewN i) HK.out.symm (HL2.out.below (bdrewN (brefl wr) i)) m (by rw [HO.out, hm]))
      rw [hm] at hck hm8
      have u2 : ((m : Int) != (m : Int)) = false := by simp
      clear hjl hm hcc
      go_wp2_with fail
      go_quiet ((go_at_call 8; refine Calls.quiet_of_same (CO.out _)))
      go_wp2_with fail
      go_roundw
      case rel => exact ⟨j + 1, by omega, by first | rfl | go_num, Lib.hid (by obtain ⟨m, rfl⟩ := HD.out; exact ⟨m + nq, World.drewN_drewN ..⟩)⟩
      case measure => simp [intOf]; omega
    · obtain rfl : j = n := by omega
      have u1 : decide ((j : Int) < (j : Int)) = false := decide_eq_false (by omega)
      have T := Lib.hid (TH.out wr HB.out)
      have u2 : ((k : Int) == (k : Int)) = true := by simp
      go_wp2_with fail
      refine T.out.mono ?_; rintro e w4 ⟨rfl, rfl⟩
      go_wp2_with fail
      go_ret
      exact ⟨by first | rfl | simp, HB.out⟩

theorem reads : Try.f3.params.toList.all (fun t => Try.prog.readableRec t && decide (t < Try.prog.types.size)) = true := by kernel_rfl

theorem contract (H : Type) (enc : TypeId × Value → H) (W : World) (base : Nat) (args : Array Value) (ds gs : List (DataW H)) (before : List MemPlace)
    (hval : ∀ (j : Nat) t v, Try.f3.params[j]? = some t → args[j]? = some v → Value.okWide Try.prog W .any base t v)
    (hW : DataW.Whole enc Try.prog Try.f3.params.toList Rows.drrOnceSpec.vars false W args.toList ds gs before) :
    Calls Try.prog 3 args W fun e W' => ∃ v, e = .returned v ∧ Rows.drrOnceSpec.post enc Try.prog Try.f3 false true false false W args v W' := by
  have hW' := hW
  obtain ⟨p, q, hA0, hV, rfl, hfz, hnd⟩ := hW
  have hA : DataW.TrodAll enc Try.prog W 0 (fun _ => true) true Try.f3.params.toList args.toList ds p := hA0
  have hlt := hA.lt
  rw [Try.params3] at hA hval
  obtain ⟨v0, vs0, d0, ds0, p0, q0, hargs, rfl, rfl, h0, r0⟩ := trodAll_cons hA
  obtain ⟨v1, vs1, d1, ds1, p1, q1, hvs1, rfl, rfl, h1, r1⟩ := trodAll_cons r0
  obtain ⟨hvsn, rfl, rfl⟩ := trodAll_nil r1
  simp only [hvsn, hvs1] at hargs
  obtain rfl : args = #[v0, v1] := by cases args; simp_all
  obtain ⟨rfl, rfl⟩ := trodVars_none hV
  clear hA0
  obtain ⟨p0a, cap0, l0, rfl, i0, e0⟩ := open_rows Try.underlying22 Try.underlying24 Try.underlying3 (by kernel_rfl) (by kernel_rfl) (hval 0 22 v0 rfl rfl) h0 (fun x hx => hlt x (by simp [hx]))
  obtain ⟨a1, rfl, rfl, rfl, w1⟩ := open_int Try.underlying3 (hval 1 3 v1 rfl rfl) h1
  have b1 := bounds_int w1
  exact law_post 4 laid reads rfl Try.underlying4 rfl hW' ⟨rfl, rfl, rfl⟩ (by
    by_cases h : codeQ l0 a1 = 0
    · exact law_good _ _ _ l0 a1 W rfl i0 h
    · exact law_bad _ _ _ l0 a1 W rfl i0 _ rfl h)

set_option maxRecDepth 100000 in
theorem lifted (os : Os) (started : os.Started) (H : Type) (enc : TypeId × Value → H) :
    ReturnsInHanded {} Try.checked os 3 .any (Rows.drrOnceSpec.pre6 enc Try.prog Try.f3 Rows.drrOnceRow.domain false) (Rows.drrOnceSpec.post enc Try.prog Try.f3 false true false false) := by
  refine returnsInHanded_of_change (C := Try.checked) own started (by kernel_rfl) Try.func3
    (ChangeSpec.witness6 (enc := enc) (C := Try.checked) false ⟨#[], #[.slice none 0 0, .int .i64 0], []⟩ 8 (by kernel_rfl) (by kernel_rfl) (by kernel_rfl) (by kernel_rfl)) ?_
  intro W base args ds gs before hval hW _ _
  exact contract H enc W base args ds gs before hval hW

theorem proved : Rows.DrrOnceSaid :=
  OpenClaim.holds_of_wide 3 Try.f3 rfl rfl rfl rfl rfl rfl rfl ⟨rfl, rfl, rfl, rfl, rfl⟩ rfl rfl rfl rfl rfl (by kernel_rfl) Try.func3 (by kernel_rfl)
    (of_decide_eq_true (by kernel_rfl)) (by unfold Func.isWrapper; first | (rw [if_pos (by decide +kernel)]; kernel_rfl) | (rw [if_neg (by decide +kernel)]; exact ⟨rfl, rfl⟩))
    (fun os started H enc _ => lifted os started H enc)
end Go.Proofs.Ytcdiejalplgclaa.DrrOnceL
