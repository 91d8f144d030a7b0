/- The functions of package stuff return what the document specifies: the law returns true for every input. No condition. -/
import Derived.Test.YtfgkbogccaiceaaDoorStuffRefF
import Derived.Test.YtfgkbogccaiceaaDoorAs
import Derived.Test.YtfgkbogccaiceaaDoorCards
import Derived.Test.YtfgkbogccaiceaaDoorTie
import Derived.Deep.DeepHandedRow
import Derived.Lib.LaidTab
import Derived.LaidHandle
import Derived.SevenTiedAt
namespace Go.Proofs.YtfgkbogccaiceaaDoor.stuffSaysP
open Go.ChangeShapes Go.WideShapes Go.ChangeAt Go.RowKit
open Go.Proofs.YtfgkbogccaiceaaDoor.Kit Go.Proofs.YtfgkbogccaiceaaDoor.App Go.Proofs.YtfgkbogccaiceaaDoor.StuffMath Go.Proofs.YtfgkbogccaiceaaDoor.Stuff Go.Proofs.YtfgkbogccaiceaaDoor.As
set_option linter.unusedVariables false

theorem nils (W : World) : Calls Tryd.prog 10 #[.slice none 0 0, .slice none 0 0] W fun e w' => e = .returned (.bool true) ∧ Below W.heap.size W w' :=
  ints_any none none 0 0 0 0 [] [] W rfl rfl (Ints.nil W) (Ints.nil W) true rfl
theorem nilRows (W : World) : Calls Tryd.prog 12 #[.slice none 0 0, .slice none 0 0] W fun e w' => e = .returned (.bool true) ∧ Below W.heap.size W w' :=
  rows_any none none 0 0 0 0 [] [] W rfl rfl (RowsI.nil W) (RowsI.nil W) true rfl
theorem flags (W : World) (a b : Nat) (ha : Ints W (some ⟨a, 0, none⟩) 8 flg) (hb : Ints W (some ⟨b, 0, none⟩) 8 flg) : Calls Tryd.prog 10 #[.slice (some ⟨a, 0, none⟩) 8 8, .slice (some ⟨b, 0, none⟩) 8 8] W fun e w' => e = .returned (.bool true) ∧ Below W.heap.size W w' :=
  ints_any _ _ 8 8 8 8 flg flg W rfl rfl ha hb true rfl
set_option maxHeartbeats 2000000 in
theorem law_bad (p : Option Addr) (cap : Nat) (l : List Int) (m : Int) (w : World) (hg : Handle w) (h : Ints w p cap l) (hm : bad l = m) (h0 : m ≠ 0) : Calls Tryd.prog 3 #[.slice p l.length cap] w fun e w' => e = .returned (.bool true) ∧ Below w.heap.size w w' := by
  have hlen := h.len_le
  have RB := Lib.hid (fun W (hW : Below w.heap.size w W) => bits_any p cap l.length l W rfl (h.below hW) m hm)
  have CK := Lib.hid (fun W (hW : Below w.heap.size w W) => check_bad p cap l.length l W rfl (h.below hW) m hm h0)
  have SF := Lib.hid (fun W (hW : Below w.heap.size w W) => stuff_bad p cap l.length l W rfl (h.below hW) m hm h0)
  have FR := Lib.hid (fun W (hW : Below w.heap.size w W) => frames_bad p cap l.length l W rfl (h.below hW) m hm h0)
  have US := Lib.hid (fun W (hW : Below w.heap.size w W) => unstuffer_bad p cap l.length l W rfl (h.below hW) m hm h0)
  have HG := Lib.hid (fun W (hW : Below w.heap.size w W) => error_hit m m W (hg.below hW))
  have tm : (m == m) = true := beq_self_eq_true m
  have t0 : (m == 0) = false := beq_eq_false_iff_ne.2 h0
  clear hm h0 h hg
  go_enter Tryd.func3, Tryd.ntmps3
  go_wp2_with fail
  refine (RB.out _ (brefl w)).mono ?_; rintro e w' ⟨rfl, rfl⟩
  go_wp2_with fail
  refine (CK.out _ (brefl w)).mono ?_; rintro e w' ⟨rfl, rfl⟩
  go_wp2_with fail
  refine (HG.out _ (brefl w)).mono ?_; rintro e w1 ⟨rfl, B1⟩
  go_wp2_with fail
  refine (SF.out _ B1).mono ?_; rintro e w' ⟨rfl, rfl⟩
  go_wp2_with fail
  refine (HG.out _ B1).mono ?_; rintro e w2 ⟨rfl, hb2⟩
  have B2 := bcall B1 hb2
  go_wp2_with fail
  refine (nils w2).mono ?_; rintro e w3 ⟨rfl, hb3⟩
  have B3 := bcall B2 hb3
  go_wp2_with fail
  refine (FR.out _ B3).mono ?_; rintro e w' ⟨rfl, rfl⟩
  go_wp2_with fail
  refine (HG.out _ B3).mono ?_; rintro e w4 ⟨rfl, hb4⟩
  have B4 := bcall B3 hb4
  go_wp2_with fail
  refine (nilRows w4).mono ?_; rintro e w5 ⟨rfl, hb5⟩
  have B5 := bcall B4 hb5
  go_wp2_with fail
  refine (US.out _ B5).mono ?_; rintro e w' ⟨rfl, rfl⟩
  go_wp2_with fail
  refine (HG.out _ B5).mono ?_; rintro e w6 ⟨rfl, hb6⟩
  have B6 := bcall B5 hb6
  go_wp2_with fail
  refine (nils w6).mono ?_; rintro e w7 ⟨rfl, hb7⟩
  have B7 := bcall B6 hb7
  go_wp2_with fail
  refine (flag_any w7).mono ?_; rintro e wf ⟨rfl, hf, hbf⟩
  have BF := bcall B7 hbf
  have IF := ints8 hf
  clear hf
  go_wp2_with fail
  refine (rflag_any wf).mono ?_; rintro e wg ⟨rfl, hg2, hbg⟩
  have BG := bcall BF hbg
  have IG := ints8 hg2
  have IF2 := IF.below hbg
  clear hg2 IF
  go_wp2_with fail
  refine (flags wg _ _ IF2 IG).mono ?_; rintro e wh ⟨rfl, hbh⟩
  go_wp2_with fail
  go_ret
  exact ⟨rfl, bcall BG hbh⟩

set_option maxHeartbeats 4000000 in
theorem law_some (p : Option Addr) (cap : Nat) (l : List Int) (w : World) (hg : Handle w) (h : Ints w p cap l) (h0 : bad l = 0) (x : List Int) (hx : ust 0 l = some x) : Calls Tryd.prog 3 #[.slice p l.length cap] w fun e w' => e = .returned (.bool true) ∧ Below w.heap.size w w' := by
  have hlen := h.len_le
  have RB := Lib.hid (fun W (hW : Below w.heap.size w W) => bits_any p cap l.length l W rfl (h.below hW) 0 h0)
  have CK := Lib.hid (fun W (hW : Below w.heap.size w W) => check_good p cap l.length l W rfl (h.below hW) h0)
  have RS := Lib.hid (fun W (hW : Below w.heap.size w W) => rstuff_any p cap l.length l W rfl (h.below hW) h0)
  have RF := Lib.hid (fun W (hW : Below w.heap.size w W) => rframes_any p cap l.length l W rfl (h.below hW) h0)
  have SF := Lib.hid (fun W (hW : Below w.heap.size w W) => stuff_ok p cap l.length l W rfl (h.below hW) h0)
  have FR := Lib.hid (fun W (hW : Below w.heap.size w W) => frames_ok p cap l.length l W rfl (h.below hW) h0)
  have hr := rmv_ust l 0 x hx
  have RU := Lib.hid (fun W (hW : Below w.heap.size w W) => runstuff_any p cap l.length l W rfl (h.below hW) h0 true (by rw [hx]; rfl))
  rw [hr] at RU
  have US := Lib.hid (fun W (hW : Below w.heap.size w W) => unstuffer_some p cap l.length l W rfl (h.below hW) h0 x hx)
  obtain ⟨s, hs⟩ : ∃ s, stf 0 l = s := ⟨_, rfl⟩
  obtain ⟨f, hf⟩ : ∃ f, frames l = f := ⟨_, rfl⟩
  rw [hs] at RS SF
  rw [hf] at RF FR
  clear hs hf h0 hx h hg hr
  go_enter Tryd.func3, Tryd.ntmps3
  go_wp2_with fail
  refine (RB.out _ (brefl w)).mono ?_; rintro e w' ⟨rfl, rfl⟩
  go_wp2_with fail
  refine (CK.out _ (brefl w)).mono ?_; rintro e w' ⟨rfl, rfl⟩
  go_wp2_with fail
  refine (error_nil 0 _).mono ?_; rintro e w' ⟨rfl, rfl⟩
  go_wp2_with fail
  refine (RS.out _ (brefl w)).mono ?_; rintro e w1 ⟨v1, rfl, ho1, B1⟩
  obtain ⟨p1, c1, rfl, i1⟩ := ho1.form
  have hl1 := i1.len_le
  clear ho1
  go_wp2_with fail
  refine (RF.out _ B1).mono ?_; rintro e w2 ⟨v2, rfl, ho2, hb2⟩
  have B2 := bcall B1 (hb2.mono (Nat.le_refl _))
  have i1 := i1.below hb2
  obtain ⟨p2, c2, rfl, i2⟩ := ho2.form
  have hl2 := i2.len_le
  clear ho2
  go_wp2_with fail
  refine (SF.out _ B2).mono ?_; rintro e w3 ⟨v3, rfl, ho3, hb3⟩
  have B3 := bcall B2 hb3
  have i1 := i1.below hb3
  have i2 := i2.below hb3
  obtain ⟨p3, c3, rfl, i3⟩ := ho3.form
  clear ho3
  go_wp2_with fail
  refine (error_nil 0 _).mono ?_; rintro e w' ⟨rfl, rfl⟩
  go_wp2_with fail
  refine (ints_any p3 p1 c3 c1 s.length s.length s s w3 rfl rfl i3 i1 true (by rw [beq_self_eq_true])).mono ?_; rintro e w4 ⟨rfl, hb4⟩
  have B4 := bcall B3 hb4
  have i2 := i2.below hb4
  clear i1 i3
  go_wp2_with fail
  refine (FR.out _ B4).mono ?_; rintro e w5 ⟨v5, rfl, ho5, hb5⟩
  have B5 := bcall B4 hb5
  have i2 := i2.below hb5
  obtain ⟨p5, c5, rfl, i5⟩ := ho5.form
  clear ho5
  go_wp2_with fail
  refine (error_nil 0 _).mono ?_; rintro e w' ⟨rfl, rfl⟩
  go_wp2_with fail
  refine (rows_any p5 p2 c5 c2 f.length f.length f f w5 rfl rfl i5 i2 true (by rw [beq_self_eq_true])).mono ?_; rintro e w6 ⟨rfl, hb6⟩
  have B6 := bcall B5 hb6
  clear i2 i5
  go_wp2_with fail
  refine (RU.out _ B6).mono ?_; rintro e w7 ⟨v7, rfl, ho7, hb7⟩
  have B7 := bcall B6 hb7
  obtain ⟨p7, c7, rfl, i7⟩ := ho7.form
  have hl7 := i7.len_le
  clear ho7
  go_wp2_with fail
  refine (US.out _ B7).mono ?_; rintro e w8 ⟨v8, rfl, ho8, hb8⟩
  have B8 := bcall B7 hb8
  have i7 := i7.below hb8
  obtain ⟨p8, c8, rfl, i8⟩ := ho8.form
  clear ho8
  go_wp2_with fail
  refine (error_nil 0 _).mono ?_; rintro e w' ⟨rfl, rfl⟩
  go_wp2_with fail
  refine (ints_any p8 p7 c8 c7 x.length x.length x x w8 rfl rfl i8 i7 true (by rw [beq_self_eq_true])).mono ?_; rintro e w9 ⟨rfl, hb9⟩
  have B9 := bcall B8 hb9
  clear i7 i8
  go_wp2_with fail
  refine (flag_any w9).mono ?_; rintro e wf ⟨rfl, hf, hbf⟩
  have BF := bcall B9 hbf
  have IF := ints8 hf
  clear hf
  go_wp2_with fail
  refine (rflag_any wf).mono ?_; rintro e wg ⟨rfl, hg2, hbg⟩
  have BG := bcall BF hbg
  have IG := ints8 hg2
  have IF2 := IF.below hbg
  clear hg2 IF
  go_wp2_with fail
  refine (flags wg _ _ IF2 IG).mono ?_; rintro e wh ⟨rfl, hbh⟩
  go_wp2_with fail
  go_ret
  exact ⟨rfl, bcall BG hbh⟩

set_option maxHeartbeats 4000000 in
theorem law_none (p : Option Addr) (cap : Nat) (l : List Int) (w : World) (hg : Handle w) (h : Ints w p cap l) (h0 : bad l = 0) (hx : ust 0 l = none) : Calls Tryd.prog 3 #[.slice p l.length cap] w fun e w' => e = .returned (.bool true) ∧ Below w.heap.size w w' := by
  have hlen := h.len_le
  have RB := Lib.hid (fun W (hW : Below w.heap.size w W) => bits_any p cap l.length l W rfl (h.below hW) 0 h0)
  have CK := Lib.hid (fun W (hW : Below w.heap.size w W) => check_good p cap l.length l W rfl (h.below hW) h0)
  have RS := Lib.hid (fun W (hW : Below w.heap.size w W) => rstuff_any p cap l.length l W rfl (h.below hW) h0)
  have RF := Lib.hid (fun W (hW : Below w.heap.size w W) => rframes_any p cap l.length l W rfl (h.below hW) h0)
  have SF := Lib.hid (fun W (hW : Below w.heap.size w W) => stuff_ok p cap l.length l W rfl (h.below hW) h0)
  have FR := Lib.hid (fun W (hW : Below w.heap.size w W) => frames_ok p cap l.length l W rfl (h.below hW) h0)
  have RU := Lib.hid (fun W (hW : Below w.heap.size w W) => runstuff_any p cap l.length l W rfl (h.below hW) h0 false (by rw [hx]; rfl))
  have US := Lib.hid (fun W (hW : Below w.heap.size w W) => unstuffer_none p cap l.length l W rfl (h.below hW) h0 hx)
  have HG := Lib.hid (fun W (hW : Below w.heap.size w W) => error_hit 2 2 W (hg.below hW))
  obtain ⟨s, hs⟩ : ∃ s, stf 0 l = s := ⟨_, rfl⟩
  obtain ⟨f, hf⟩ : ∃ f, frames l = f := ⟨_, rfl⟩
  rw [hs] at RS SF
  rw [hf] at RF FR
  clear hs hf h0 hx h hg
  go_enter Tryd.func3, Tryd.ntmps3
  go_wp2_with fail
  refine (RB.out _ (brefl w)).mono ?_; rintro e w' ⟨rfl, rfl⟩
  go_wp2_with fail
  refine (CK.out _ (brefl w)).mono ?_; rintro e w' ⟨rfl, rfl⟩
  go_wp2_with fail
  refine (error_nil 0 _).mono ?_; rintro e w' ⟨rfl, rfl⟩
  go_wp2_with fail
  refine (RS.out _ (brefl w)).mono ?_; rintro e w1 ⟨v1, rfl, ho1, B1⟩
  obtain ⟨p1, c1, rfl, i1⟩ := ho1.form
  have hl1 := i1.len_le
  clear ho1
  go_wp2_with fail
  refine (RF.out _ B1).mono ?_; rintro e w2 ⟨v2, rfl, ho2, hb2⟩
  have B2 := bcall B1 (hb2.mono (Nat.le_refl _))
  have i1 := i1.below hb2
  obtain ⟨p2, c2, rfl, i2⟩ := ho2.form
  have hl2 := i2.len_le
  clear ho2
  go_wp2_with fail
  refine (SF.out _ B2).mono ?_; rintro e w3 ⟨v3, rfl, ho3, hb3⟩
  have B3 := bcall B2 hb3
  have i1 := i1.below hb3
  have i2 := i2.below hb3
  obtain ⟨p3, c3, rfl, i3⟩ := ho3.form
  clear ho3
  go_wp2_with fail
  refine (error_nil 0 _).mono ?_; rintro e w' ⟨rfl, rfl⟩
  go_wp2_with fail
  refine (ints_any p3 p1 c3 c1 s.length s.length s s w3 rfl rfl i3 i1 true (by rw [beq_self_eq_true])).mono ?_; rintro e w4 ⟨rfl, hb4⟩
  have B4 := bcall B3 hb4
  have i2 := i2.below hb4
  clear i1 i3
  go_wp2_with fail
  refine (FR.out _ B4).mono ?_; rintro e w5 ⟨v5, rfl, ho5, hb5⟩
  have B5 := bcall B4 hb5
  have i2 := i2.below hb5
  obtain ⟨p5, c5, rfl, i5⟩ := ho5.form
  clear ho5
  go_wp2_with fail
  refine (error_nil 0 _).mono ?_; rintro e w' ⟨rfl, rfl⟩
  go_wp2_with fail
  refine (rows_any p5 p2 c5 c2 f.length f.length f f w5 rfl rfl i5 i2 true (by rw [beq_self_eq_true])).mono ?_; rintro e w6 ⟨rfl, hb6⟩
  have B6 := bcall B5 hb6
  clear i2 i5
  go_wp2_with fail
  refine (RU.out _ B6).mono ?_; rintro e w7 ⟨v7, rfl, ho7, hb7⟩
  have B7 := bcall B6 hb7
  obtain ⟨p7, c7, rfl, i7⟩ := ho7.form
  have hl7 := i7.len_le
  clear ho7
  go_wp2_with fail
  refine (US.out _ B7).mono ?_; rintro e w8 ⟨rfl, hb8⟩
  have B8 := bcall B7 hb8
  go_wp2_with fail
  refine (HG.out _ B8).mono ?_; rintro e w9 ⟨rfl, hb9⟩
  have B9 := bcall B8 hb9
  go_wp2_with fail
  refine (nils w9).mono ?_; rintro e wa ⟨rfl, hba⟩
  have BA := bcall B9 hba
  go_wp2_with fail
  refine (flag_any wa).mono ?_; rintro e wf ⟨rfl, hf, hbf⟩
  have BF := bcall BA hbf
  have IF := ints8 hf
  clear hf
  go_wp2_with fail
  refine (rflag_any wf).mono ?_; rintro e wg ⟨rfl, hg2, hbg⟩
  have BG := bcall BF hbg
  have IG := ints8 hg2
  have IF2 := IF.below hbg
  clear hg2 IF
  go_wp2_with fail
  refine (flags wg _ _ IF2 IG).mono ?_; rintro e wh ⟨rfl, hbh⟩
  go_wp2_with fail
  go_ret
  exact ⟨rfl, bcall BG hbh⟩

theorem law_any (p : Option Addr) (cap : Nat) (l : List Int) (w : World) (hg : Handle w) (h : Ints w p cap l) : Calls Tryd.prog 3 #[.slice p l.length cap] w fun e w' => e = .returned (.bool true) ∧ Below w.heap.size w w' := by
  by_cases h0 : bad l = 0
  · cases hx : ust 0 l with
    | none => exact law_none p cap l w hg h h0 hx
    | some x => exact law_some p cap l w hg h h0 x hx
  · exact law_bad p cap l (bad l) w hg h rfl h0

theorem reads : Tryd.f3.params.toList.all (fun t => Tryd.prog.readableRec t && decide (t < Tryd.prog.types.size)) = true := by kernel_rfl
theorem et : Tryd.prog.globalNamed "errors.errorType" = some 0 := by kernel_rfl
theorem rt : (Tryd.prog.cutTypes.find? (·.1 == "internal/reflectlite.rtype")).map (·.2) = some 65 := by kernel_rfl
theorem oneRow : ((List.range Tryd.prog.types.size).filter fun t => Tryd.prog.rowNamed t [101, 114, 114, 111, 114]) = [26] := by kernel_rfl

theorem handle_of_laid {W : World} (h : laidMetH Tryd.prog Rows.stuffSaysRow.laid W) : Handle W := by
  have h' : laidMet Tryd.prog [] W ∧ handlesMet Tryd.prog Rows.stuffSaysRow.laid W := h
  obtain ⟨name, u, ty, e1, e2, e3, e4, e5⟩ := h'.2 _ (List.mem_singleton.2 rfl)
  have en : name = [101, 114, 114, 111, 114] := (Option.some.inj e1).symm
  subst en
  obtain rfl := Option.some.inj (rt.symm.trans e2)
  have hm : ty ∈ (List.range Tryd.prog.types.size).filter fun t => Tryd.prog.rowNamed t [101, 114, 114, 111, 114] := List.mem_filter.2 ⟨List.mem_range.2 e3, e4⟩
  rw [oneRow] at hm
  obtain rfl := List.mem_singleton.1 hm
  have hh : typeHandle Tryd.prog 26 = .pointer (some ⟨1, 26, none⟩) := by kernel_rfl
  rw [hh] at e5
  have e6 := World.var?_cell et e5 0
  unfold Handle
  simpa using e6

noncomputable def laidWorld (os : Os) : World :=
  { World.holding Tryd.prog os ⟨#[], #[], []⟩ with heap := (World.holding Tryd.prog os ⟨#[], #[], []⟩).heap.modify 0 fun
      | .cells _ t frozen => .cells #[.iface 65 (.agg #[.pointer (some ⟨1, 26, none⟩)])] t frozen
      | o => o }
theorem laid_met (os : Os) : laidMetH Tryd.prog Rows.stuffSaysRow.laid ((laidWorld os).forCall (fun _ _ => 0) ⟨#[], #[.slice none 0 0], []⟩).memory :=
  laidMetH_of_parts (laidMet_nil _ _) (by kernel_rfl)
theorem reads_wit (os : Os) {H : Type} (enc : TypeId × Value → H) : ∃ places, DataW.whole enc Tryd.prog ((laidWorld os).forCall (fun _ _ => 0) ⟨#[], #[.slice none 0 0], []⟩).memory Tryd.f3.params.toList Rows.stuffSaysSpec.vars false (#[.slice none 0 0] : Array Value).toList 8 = some ([.nil], [], places) :=
  ⟨[], by kernel_rfl⟩

theorem contract (H : Type) (enc : TypeId × Value → H) (W : World) (base : Nat) (args : Array Value) (ds gs : List (DataW H)) (before : List MemPlace)
    (hval : ∀ (j : Nat) t v, Tryd.f3.params[j]? = some t → args[j]? = some v → Value.okWide Tryd.prog W .any base t v)
    (hW : DataW.Whole enc Tryd.prog Tryd.f3.params.toList Rows.stuffSaysSpec.vars false W args.toList ds gs before) (hL : laidMetH Tryd.prog Rows.stuffSaysRow.laid W) :
    Calls Tryd.prog 3 args W fun e W' => ∃ v, e = .returned v ∧ Rows.stuffSaysSpec.post enc Tryd.prog Tryd.f3 false true false false W args v W' := by
  have hW' := hW
  have hg := handle_of_laid hL
  obtain ⟨p, q, hA0, hV, rfl, hfz, hnd⟩ := hW
  have hA : DataW.TrodAll enc Tryd.prog W 0 (fun _ => true) true Tryd.f3.params.toList args.toList ds p := hA0
  have hlt := hA.lt
  rw [Tryd.params3] at hA hval
  obtain ⟨v0, vs0, d0, ds0, p0, q0, hargs, rfl, rfl, h0, r0⟩ := trodAll_cons hA
  obtain ⟨hvsn, rfl, rfl⟩ := trodAll_nil r0
  simp only [hvsn] at hargs
  obtain rfl : args = #[v0] := by cases args; simp_all
  obtain ⟨p0a, cap0, l0, rfl, i0⟩ := open_intsl Tryd.underlying22 Tryd.underlying3 (by kernel_rfl) (hval 0 22 v0 rfl rfl) h0 (fun x hx => hlt x (by simp [hx]))
  obtain ⟨rfl, rfl⟩ := trodVars_none hV
  clear hA0
  exact law_post 4 laid reads rfl Tryd.underlying4 rfl hW' ⟨rfl, rfl, rfl⟩ (law_any p0a cap0 l0 W hg i0)

set_option maxRecDepth 100000 in
theorem lifted (os : Os) (started : os.Started) (H : Type) (enc : TypeId × Value → H) (F : Stop.Interp) :
    ReturnsInHanded {} Tryd.checked os 3 .any ((OpenSpec.ofChange Rows.stuffSaysSpec).preRow enc Tryd.prog Tryd.f3 Rows.stuffSaysRow.domain false Rows.stuffSaysRow.laid) (((OpenSpec.ofChange Rows.stuffSaysSpec).at F).post enc Tryd.prog Tryd.f3 false true false false) := by
  obtain ⟨places, hx⟩ := reads_wit os enc
  refine returnsInHanded_of_row (C := Tryd.checked) (s := (OpenSpec.ofChange Rows.stuffSaysSpec)) own started (by kernel_rfl) Tryd.func3
    (witness_row_at (enc := enc) (C := Tryd.checked) false (laidWorld os) #[.slice none 0 0] rfl (by kernel_rfl) (by kernel_rfl) (by kernel_rfl)
      (OpenSpec.preRow_of_cond 8 hx (by kernel_rfl) (fun k hk => by cases hk) (by kernel_rfl) (laid_met os))) ?_
  intro W base args ds gs before hval hW _ hcond _ hL _ _
  exact contract H enc W base args ds gs before hval hW hL

theorem said : Rows.StuffSaysSaid :=
  OpenClaim.holds_of_cond 3 Tryd.f3 rfl rfl rfl rfl rfl rfl rfl ⟨rfl, rfl, rfl, rfl, rfl⟩ rfl rfl rfl rfl rfl (by kernel_rfl) Tryd.func3 (by kernel_rfl)
    (of_decide_eq_true (by kernel_rfl)) (by unfold Func.isWrapper; first | (rw [if_pos (by decide +kernel)]; kernel_rfl) | (rw [if_neg (by decide +kernel)]; exact ⟨rfl, rfl⟩))
    (fun os started H enc _ F => by rw [OpenClaim.pre_eq_preRow]; exact lifted os started H enc F)

theorem plain (f : FuncId) (fn : Func) (hf : Tryd.pinned.checked.prog.funcNamed Rows.stuffSaysRow.func = some f) (hfn : Tryd.pinned.checked.prog.funcs[f]? = some fn) :
    true = Tryd.pinned.checked.prog.looks [] ∧ ∀ (j : Nat) t, fn.params[j]? = some t → Tryd.pinned.checked.prog.wantsStandIn t = false := by
  obtain rfl : f = 3 := Option.some.inj ((show Tryd.prog.funcNamed Rows.stuffSaysRow.func = some 3 by kernel_rfl).symm.trans hf) |>.symm
  obtain rfl : fn = Tryd.f3 := (Option.some.inj (Tryd.func3.symm.trans hfn)).symm
  refine ⟨by kernel_rfl, fun j t ht => ?_⟩
  have hall : Tryd.f3.params.toList.all (fun t => !Tryd.prog.wantsStandIn t) = true := by kernel_rfl
  have hm : t ∈ Tryd.f3.params.toList := by simpa using Array.mem_of_getElem? ht
  have := List.all_eq_true.1 hall t hm
  show Tryd.prog.wantsStandIn t = false
  simpa using this

theorem proved : Rows.StuffSaysCardSaid :=
  Claim7.holds_tied_plain_at .later [] _ _ _ _ said (fun _ h => by cases h) (by kernel_rfl) (fun _ h => by cases h) stuffSays_row_tie rfl ⟨rfl, rfl⟩ (by kernel_rfl) rfl plain (by kernel_rfl)

end Go.Proofs.YtfgkbogccaiceaaDoor.stuffSaysP
