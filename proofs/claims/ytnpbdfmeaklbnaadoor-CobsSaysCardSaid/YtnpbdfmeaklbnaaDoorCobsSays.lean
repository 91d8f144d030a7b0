/- The functions of package cobs return what the document specifies: the law returns true for every input. No condition. -/
import Derived.Test.YtnpbdfmeaklbnaaDoorCobsRefU
import Derived.Test.YtnpbdfmeaklbnaaDoorCobs4
import Derived.Test.YtnpbdfmeaklbnaaDoorSame
import Derived.Test.YtnpbdfmeaklbnaaDoorAs
import Derived.Test.YtnpbdfmeaklbnaaDoorCards
import Derived.Test.YtnpbdfmeaklbnaaDoorTie
import Derived.Deep.DeepHandedRow
import Derived.Lib.LaidTab
import Derived.LaidHandle
import Derived.SevenTiedAt
namespace Go.Proofs.YtnpbdfmeaklbnaaDoor.cobsSaysP
open Go.ChangeShapes Go.WideShapes Go.ChangeAt Go.RowKit
open Go.Proofs.YtnpbdfmeaklbnaaDoor.Kit Go.Proofs.YtnpbdfmeaklbnaaDoor.App Go.Proofs.YtnpbdfmeaklbnaaDoor.CobsMath Go.Proofs.YtnpbdfmeaklbnaaDoor.Cobs Go.Proofs.YtnpbdfmeaklbnaaDoor.As
set_option linter.unusedVariables false
set_option maxRecDepth 20000

theorem nils (W : World) : Calls Tryd.prog 8 #[.slice none 0 0, .slice none 0 0] W fun e w' => e = .returned (.bool true) ∧ Below W.heap.size W w' :=
  ints_any none none 0 0 0 0 [] [] W rfl rfl (Ints.nil W) (Ints.nil W) true rfl

/-- Reading and its answer fail with c. -/
def Bad (p : Option Addr) (cap : Nat) (l : List Int) (c : Int) : Prop :=
  c ≠ 0 ∧ ∀ W, Ints W p cap l →
    (Calls Tryd.prog 9 #[.slice p l.length cap] W fun e w' => e = .returned (.tuple #[.slice none 0 0, .int .i64 c]) ∧ Below W.heap.size W w') ∧
    (Calls Tryd.prog 10 #[.slice p l.length cap] W fun e w' => e = .returned (.tuple #[.slice none 0 0, .iface 38 (.int .i64 c)]) ∧ Below W.heap.size W w')
/-- Both give x. -/
def Fine (p : Option Addr) (cap : Nat) (l x : List Int) : Prop :=
  ∀ W, Ints W p cap l →
    (Calls Tryd.prog 9 #[.slice p l.length cap] W fun e w' => ∃ v, e = .returned (.tuple #[v, .int .i64 0]) ∧ OwnI w' W.heap.size v x ∧ Below W.heap.size W w') ∧
    (Calls Tryd.prog 10 #[.slice p l.length cap] W fun e w' => ∃ v, e = .returned (.tuple #[v, .nilIface]) ∧ OwnI w' W.heap.size v x ∧ Below W.heap.size W w')

theorem reads_any (p : Option Addr) (cap : Nat) (l : List Int) : (∃ c, Bad p cap l c) ∨ ∃ x, Fine p cap l x := by
  by_cases h0 : bad 1200 l = 0
  · by_cases hn : l = []
    · refine .inl ⟨5, by decide, fun W hW => ⟨(runcobs_none p cap _ l W rfl hW hn).mono ?_, (read_none p cap _ l W rfl hW hn).mono ?_⟩⟩
      · rintro e w' ⟨rfl, rfl⟩; exact ⟨rfl, brefl _⟩
      · rintro e w' ⟨rfl, rfl⟩; exact ⟨rfl, brefl _⟩
    · cases hd : dec l with
      | none =>
        refine .inl ⟨2, by decide, fun W hW => ⟨(runcobs_any p cap _ l W rfl hW h0 hn none hd.symm).mono ?_, read_syn p cap _ l W rfl hW h0 hn hd⟩⟩
        rintro e w' ⟨v, rfl, hv, hb⟩
        obtain rfl := hv.2 (by decide)
        exact ⟨rfl, hb⟩
      | some x =>
        by_cases hx : 600 < x.length
        · refine .inl ⟨4, by decide, fun W hW => ⟨(runcobs_any p cap _ l W rfl hW h0 hn (some x) hd.symm).mono ?_, read_full p cap _ l W rfl hW h0 hn x hd hx⟩⟩
          have ht : told (some x) = 4 := by simp [told, hx]
          rintro e w' ⟨v, rfl, hv, hb⟩
          obtain rfl := hv.2 (by rw [ht]; decide)
          rw [ht]
          exact ⟨rfl, hb⟩
        · refine .inr ⟨x, fun W hW => ⟨(runcobs_any p cap _ l W rfl hW h0 hn (some x) hd.symm).mono ?_, read_ok p cap _ l W rfl hW h0 hn x hd (by omega)⟩⟩
          have ht : told (some x) = 0 := by simp [told, hx]
          rintro e w' ⟨v, rfl, hv, hb⟩
          rw [ht]
          exact ⟨v, rfl, hv.1 x rfl (by omega), hb⟩
  · refine .inl ⟨bad 1200 l, h0, fun W hW => ⟨(runcobs_bad p cap _ l W rfl hW _ rfl h0).mono ?_, (read_bad p cap _ l W rfl hW _ rfl h0).mono ?_⟩⟩
    · rintro e w' ⟨rfl, rfl⟩; exact ⟨rfl, brefl _⟩
    · rintro e w' ⟨rfl, rfl⟩; exact ⟨rfl, brefl _⟩

set_option maxHeartbeats 2000000 in
theorem law_bb (p : Option Addr) (cap : Nat) (l : List Int) (w : World) (hg : Handle w) (h : Ints w p cap l) (m : Int) (hm : bad 600 l = m) (h0 : m ≠ 0) (c : Int) (hr : Bad p cap l c) : Calls Tryd.prog 3 #[.slice p l.length cap] w fun e w' => e = .returned (.bool true) ∧ Below w.heap.size w w' := by
  have hlen := h.len_le
  have RB := Lib.hid (fun W (hW : Below w.heap.size w W) => bytes_any 600 p cap l.length l W rfl (h.below hW) (by omega) m hm)
  have WR := Lib.hid (fun W (hW : Below w.heap.size w W) => write_bad p cap l.length l W rfl (h.below hW) m hm h0)
  have HG := Lib.hid (fun W (hW : Below w.heap.size w W) => error_hit m m W (hg.below hW))
  have tm : (m == m) = true := beq_self_eq_true m
  have t0 : (m == 0) = false := beq_eq_false_iff_ne.2 h0
  clear hm h0
  have RU := Lib.hid (fun W (hW : Below w.heap.size w W) => (hr.2 W (h.below hW)).1)
  have RD := Lib.hid (fun W (hW : Below w.heap.size w W) => (hr.2 W (h.below hW)).2)
  have HC := Lib.hid (fun W (hW : Below w.heap.size w W) => error_hit c c W (hg.below hW))
  have tc : (c == c) = true := beq_self_eq_true c
  have tc0 : (c == 0) = false := beq_eq_false_iff_ne.2 hr.1
  clear hr h hg
  go_enter Tryd.func3, Tryd.ntmps3
  go_wp2_with fail
  refine (RB.out _ (brefl w)).mono ?_; rintro e w' ⟨rfl, rfl⟩
  go_wp2_with fail
  refine (WR.out _ (brefl w)).mono ?_; rintro e w' ⟨rfl, rfl⟩
  go_wp2_with fail
  refine (HG.out _ (brefl w)).mono ?_; rintro e w2 ⟨rfl, B2⟩
  go_wp2_with fail
  refine (nils w2).mono ?_; rintro e w3 ⟨rfl, hb3⟩
  have B3 := bcall B2 hb3
  go_wp2_with fail
  refine (RU.out _ B3).mono ?_; rintro e w4 ⟨rfl, hb4⟩
  have B4 := bcall B3 hb4
  go_wp2_with fail
  refine (RD.out _ B4).mono ?_; rintro e w5 ⟨rfl, hb5⟩
  have B5 := bcall B4 hb5
  go_wp2_with fail
  refine (HC.out _ B5).mono ?_; rintro e w6 ⟨rfl, hb6⟩
  have B6 := bcall B5 hb6
  go_wp2_with fail
  refine (nils w6).mono ?_; rintro e w7 ⟨rfl, hb7⟩
  have B7 := bcall B6 hb7
  go_wp2_with fail
  go_ret
  exact ⟨rfl, B7⟩

set_option maxHeartbeats 2000000 in
theorem law_bg (p : Option Addr) (cap : Nat) (l : List Int) (w : World) (hg : Handle w) (h : Ints w p cap l) (m : Int) (hm : bad 600 l = m) (h0 : m ≠ 0) (x : List Int) (hr : Fine p cap l x) : Calls Tryd.prog 3 #[.slice p l.length cap] w fun e w' => e = .returned (.bool true) ∧ Below w.heap.size w w' := by
  have hlen := h.len_le
  have RB := Lib.hid (fun W (hW : Below w.heap.size w W) => bytes_any 600 p cap l.length l W rfl (h.below hW) (by omega) m hm)
  have WR := Lib.hid (fun W (hW : Below w.heap.size w W) => write_bad p cap l.length l W rfl (h.below hW) m hm h0)
  have HG := Lib.hid (fun W (hW : Below w.heap.size w W) => error_hit m m W (hg.below hW))
  have tm : (m == m) = true := beq_self_eq_true m
  have t0 : (m == 0) = false := beq_eq_false_iff_ne.2 h0
  clear hm h0
  have RU := Lib.hid (fun W (hW : Below w.heap.size w W) => (hr W (h.below hW)).1)
  have RD := Lib.hid (fun W (hW : Below w.heap.size w W) => (hr W (h.below hW)).2)
  clear hr h hg
  go_enter Tryd.func3, Tryd.ntmps3
  go_wp2_with fail
  refine (RB.out _ (brefl w)).mono ?_; rintro e w' ⟨rfl, rfl⟩
  go_wp2_with fail
  refine (WR.out _ (brefl w)).mono ?_; rintro e w' ⟨rfl, rfl⟩
  go_wp2_with fail
  refine (HG.out _ (brefl w)).mono ?_; rintro e w2 ⟨rfl, B2⟩
  go_wp2_with fail
  refine (nils w2).mono ?_; rintro e w3 ⟨rfl, hb3⟩
  have B3 := bcall B2 hb3
  go_wp2_with fail
  refine (RU.out _ B3).mono ?_; rintro e w4 ⟨v4, rfl, ho4, hb4⟩
  have B4 := bcall B3 hb4
  obtain ⟨p4, c4, rfl, i4⟩ := ho4.form
  have hl4 := i4.len_le
  clear ho4
  go_wp2_with fail
  refine (RD.out _ B4).mono ?_; rintro e w5 ⟨v5, rfl, ho5, hb5⟩
  have B5 := bcall B4 hb5
  have i4 := i4.below hb5
  obtain ⟨p5, c5, rfl, i5⟩ := ho5.form
  clear ho5
  go_wp2_with fail
  refine (error_nil 0 _).mono ?_; rintro e w' ⟨rfl, rfl⟩
  go_wp2_with fail
  refine (ints_any p5 p4 c5 c4 x.length x.length x x w5 rfl rfl i5 i4 true (by rw [beq_self_eq_true])).mono ?_; rintro e w7 ⟨rfl, hb7⟩
  have B7 := bcall B5 hb7
  go_wp2_with fail
  go_ret
  exact ⟨rfl, B7⟩

set_option maxHeartbeats 2000000 in
theorem law_gb (p : Option Addr) (cap : Nat) (l : List Int) (w : World) (hg : Handle w) (h : Ints w p cap l) (h0 : bad 600 l = 0) (c : Int) (hr : Bad p cap l c) : Calls Tryd.prog 3 #[.slice p l.length cap] w fun e w' => e = .returned (.bool true) ∧ Below w.heap.size w w' := by
  have hlen := h.len_le
  have RB := Lib.hid (fun W (hW : Below w.heap.size w W) => bytes_any 600 p cap l.length l W rfl (h.below hW) (by omega) 0 h0)
  have RC := Lib.hid (fun W (hW : Below w.heap.size w W) => rcobs_any p cap l.length l W rfl (h.below hW) (bad_zero h0).1)
  have WR := Lib.hid (fun W (hW : Below w.heap.size w W) => write_ok p cap l.length l W rfl (h.below hW) h0)
  obtain ⟨s, hs⟩ : ∃ s, enc l = s := ⟨_, rfl⟩
  rw [hs] at RC WR
  clear hs h0
  have RU := Lib.hid (fun W (hW : Below w.heap.size w W) => (hr.2 W (h.below hW)).1)
  have RD := Lib.hid (fun W (hW : Below w.heap.size w W) => (hr.2 W (h.below hW)).2)
  have HC := Lib.hid (fun W (hW : Below w.heap.size w W) => error_hit c c W (hg.below hW))
  have tc : (c == c) = true := beq_self_eq_true c
  have tc0 : (c == 0) = false := beq_eq_false_iff_ne.2 hr.1
  clear hr h hg
  go_enter Tryd.func3, Tryd.ntmps3
  go_wp2_with fail
  refine (RB.out _ (brefl w)).mono ?_; rintro e w' ⟨rfl, rfl⟩
  go_wp2_with fail
  refine (RC.out _ (brefl w)).mono ?_; rintro e w1 ⟨v1, rfl, ho1, B1⟩
  obtain ⟨p1, c1, rfl, i1⟩ := ho1.form
  have hl1 := i1.len_le
  clear ho1
  go_wp2_with fail
  refine (WR.out _ B1).mono ?_; rintro e w2 ⟨v2, rfl, ho2, hb2⟩
  have B2 := bcall B1 hb2
  have i1 := i1.below hb2
  obtain ⟨p2, c2, rfl, i2⟩ := ho2.form
  clear ho2
  go_wp2_with fail
  refine (error_nil 0 _).mono ?_; rintro e w' ⟨rfl, rfl⟩
  go_wp2_with fail
  refine (ints_any p2 p1 c2 c1 s.length s.length s s w2 rfl rfl i2 i1 true (by rw [beq_self_eq_true])).mono ?_; rintro e w3 ⟨rfl, hb3⟩
  have B3 := bcall B2 hb3
  clear i1 i2
  go_wp2_with fail
  refine (RU.out _ B3).mono ?_; rintro e w4 ⟨rfl, hb4⟩
  have B4 := bcall B3 hb4
  go_wp2_with fail
  refine (RD.out _ B4).mono ?_; rintro e w5 ⟨rfl, hb5⟩
  have B5 := bcall B4 hb5
  go_wp2_with fail
  refine (HC.out _ B5).mono ?_; rintro e w6 ⟨rfl, hb6⟩
  have B6 := bcall B5 hb6
  go_wp2_with fail
  refine (nils w6).mono ?_; rintro e w7 ⟨rfl, hb7⟩
  have B7 := bcall B6 hb7
  go_wp2_with fail
  go_ret
  exact ⟨rfl, B7⟩

set_option maxHeartbeats 2000000 in
theorem law_gg (p : Option Addr) (cap : Nat) (l : List Int) (w : World) (hg : Handle w) (h : Ints w p cap l) (h0 : bad 600 l = 0) (x : List Int) (hr : Fine p cap l x) : Calls Tryd.prog 3 #[.slice p l.length cap] w fun e w' => e = .returned (.bool true) ∧ Below w.heap.size w w' := by
  have hlen := h.len_le
  have RB := Lib.hid (fun W (hW : Below w.heap.size w W) => bytes_any 600 p cap l.length l W rfl (h.below hW) (by omega) 0 h0)
  have RC := Lib.hid (fun W (hW : Below w.heap.size w W) => rcobs_any p cap l.length l W rfl (h.below hW) (bad_zero h0).1)
  have WR := Lib.hid (fun W (hW : Below w.heap.size w W) => write_ok p cap l.length l W rfl (h.below hW) h0)
  obtain ⟨s, hs⟩ : ∃ s, enc l = s := ⟨_, rfl⟩
  rw [hs] at RC WR
  clear hs h0
  have RU := Lib.hid (fun W (hW : Below w.heap.size w W) => (hr W (h.below hW)).1)
  have RD := Lib.hid (fun W (hW : Below w.heap.size w W) => (hr W (h.below hW)).2)
  clear hr h hg
  go_enter Tryd.func3, Tryd.ntmps3
  go_wp2_with fail
  refine (RB.out _ (brefl w)).mono ?_; rintro e w' ⟨rfl, rfl⟩
  go_wp2_with fail
  refine (RC.out _ (brefl w)).mono ?_; rintro e w1 ⟨v1, rfl, ho1, B1⟩
  obtain ⟨p1, c1, rfl, i1⟩ := ho1.form
  have hl1 := i1.len_le
  clear ho1
  go_wp2_with fail
  refine (WR.out _ B1).mono ?_; rintro e w2 ⟨v2, rfl, ho2, hb2⟩
  have B2 := bcall B1 hb2
  have i1 := i1.below hb2
  obtain ⟨p2, c2, rfl, i2⟩ := ho2.form
  clear ho2
  go_wp2_with fail
  refine (error_nil 0 _).mono ?_; rintro e w' ⟨rfl, rfl⟩
  go_wp2_with fail
  refine (ints_any p2 p1 c2 c1 s.length s.length s s w2 rfl rfl i2 i1 true (by rw [beq_self_eq_true])).mono ?_; rintro e w3 ⟨rfl, hb3⟩
  have B3 := bcall B2 hb3
  clear i1 i2
  go_wp2_with fail
  refine (RU.out _ B3).mono ?_; rintro e w4 ⟨v4, rfl, ho4, hb4⟩
  have B4 := bcall B3 hb4
  obtain ⟨p4, c4, rfl, i4⟩ := ho4.form
  have hl4 := i4.len_le
  clear ho4
  go_wp2_with fail
  refine (RD.out _ B4).mono ?_; rintro e w5 ⟨v5, rfl, ho5, hb5⟩
  have B5 := bcall B4 hb5
  have i4 := i4.below hb5
  obtain ⟨p5, c5, rfl, i5⟩ := ho5.form
  clear ho5
  go_wp2_with fail
  refine (error_nil 0 _).mono ?_; rintro e w' ⟨rfl, rfl⟩
  go_wp2_with fail
  refine (ints_any p5 p4 c5 c4 x.length x.length x x w5 rfl rfl i5 i4 true (by rw [beq_self_eq_true])).mono ?_; rintro e w7 ⟨rfl, hb7⟩
  have B7 := bcall B5 hb7
  go_wp2_with fail
  go_ret
  exact ⟨rfl, B7⟩

theorem law_any (p : Option Addr) (cap : Nat) (l : List Int) (w : World) (hg : Handle w) (h : Ints w p cap l) : Calls Tryd.prog 3 #[.slice p l.length cap] w fun e w' => e = .returned (.bool true) ∧ Below w.heap.size w w' := by
  by_cases h0 : bad 600 l = 0
  · rcases reads_any p cap l with ⟨c, hc⟩ | ⟨x, hx⟩
    · exact law_gb p cap l w hg h h0 c hc
    · exact law_gg p cap l w hg h h0 x hx
  · rcases reads_any p cap l with ⟨c, hc⟩ | ⟨x, hx⟩
    · exact law_bb p cap l w hg h _ rfl h0 c hc
    · exact law_bg p cap l w hg h _ rfl h0 x hx

theorem reads : Tryd.f3.params.toList.all (fun t => Tryd.prog.readableRec t && decide (t < Tryd.prog.types.size)) = true := by kernel_rfl
theorem et : Tryd.prog.globalNamed "errors.errorType" = some 0 := by kernel_rfl
theorem rt : (Tryd.prog.cutTypes.find? (·.1 == "internal/reflectlite.rtype")).map (·.2) = some 60 := by kernel_rfl
theorem oneRow : ((List.range Tryd.prog.types.size).filter fun t => Tryd.prog.rowNamed t [101, 114, 114, 111, 114]) = [26] := by kernel_rfl

theorem handle_of_laid {W : World} (h : laidMetH Tryd.prog Rows.cobsSaysRow.laid W) : Handle W := by
  have h' : laidMet Tryd.prog [] W ∧ handlesMet Tryd.prog Rows.cobsSaysRow.laid W := h
  obtain ⟨name, u, ty, e1, e2, e3, e4, e5⟩ := h'.2 _ (List.mem_singleton.2 rfl)
  have en : name = [101, 114, 114, 111, 114] := (Option.some.inj e1).symm
  subst en
  obtain rfl := Option.some.inj (rt.symm.trans e2)
  have hm : ty ∈ (List.range Tryd.prog.types.size).filter fun t => Tryd.prog.rowNamed t [101, 114, 114, 111, 114] := List.mem_filter.2 ⟨List.mem_range.2 e3, e4⟩
  rw [oneRow] at hm
  obtain rfl := List.mem_singleton.1 hm
  have hh : typeHandle Tryd.prog 26 = .pointer (some ⟨1, 26, none⟩) := by kernel_rfl
  rw [hh] at e5
  have e6 := World.var?_cell et e5 0
  unfold Handle
  simpa using e6

noncomputable def laidWorld (os : Os) : World :=
  { World.holding Tryd.prog os ⟨#[], #[], []⟩ with heap := (World.holding Tryd.prog os ⟨#[], #[], []⟩).heap.modify 0 fun
      | .cells _ t frozen => .cells #[.iface 60 (.agg #[.pointer (some ⟨1, 26, none⟩)])] t frozen
      | o => o }
theorem laid_met (os : Os) : laidMetH Tryd.prog Rows.cobsSaysRow.laid ((laidWorld os).forCall (fun _ _ => 0) ⟨#[], #[.slice none 0 0], []⟩).memory :=
  laidMetH_of_parts (laidMet_nil _ _) (by kernel_rfl)
theorem reads_wit (os : Os) {H : Type} (enc : TypeId × Value → H) : ∃ places, DataW.whole enc Tryd.prog ((laidWorld os).forCall (fun _ _ => 0) ⟨#[], #[.slice none 0 0], []⟩).memory Tryd.f3.params.toList Rows.cobsSaysSpec.vars false (#[.slice none 0 0] : Array Value).toList 8 = some ([.nil], [], places) :=
  ⟨[], by kernel_rfl⟩

theorem contract (H : Type) (enc : TypeId × Value → H) (W : World) (base : Nat) (args : Array Value) (ds gs : List (DataW H)) (before : List MemPlace)
    (hval : ∀ (j : Nat) t v, Tryd.f3.params[j]? = some t → args[j]? = some v → Value.okWide Tryd.prog W .any base t v)
    (hW : DataW.Whole enc Tryd.prog Tryd.f3.params.toList Rows.cobsSaysSpec.vars false W args.toList ds gs before) (hL : laidMetH Tryd.prog Rows.cobsSaysRow.laid W) :
    Calls Tryd.prog 3 args W fun e W' => ∃ v, e = .returned v ∧ Rows.cobsSaysSpec.post enc Tryd.prog Tryd.f3 false true false false W args v W' := by
  have hW' := hW
  have hg := handle_of_laid hL
  obtain ⟨p, q, hA0, hV, rfl, hfz, hnd⟩ := hW
  have hA : DataW.TrodAll enc Tryd.prog W 0 (fun _ => true) true Tryd.f3.params.toList args.toList ds p := hA0
  have hlt := hA.lt
  rw [Tryd.params3] at hA hval
  obtain ⟨v0, vs0, d0, ds0, p0, q0, hargs, rfl, rfl, h0, r0⟩ := trodAll_cons hA
  obtain ⟨hvsn, rfl, rfl⟩ := trodAll_nil r0
  simp only [hvsn] at hargs
  obtain rfl : args = #[v0] := by cases args; simp_all
  obtain ⟨p0a, cap0, l0, rfl, i0⟩ := open_intsl Tryd.underlying22 Tryd.underlying3 (by kernel_rfl) (hval 0 22 v0 rfl rfl) h0 (fun x hx => hlt x (by simp [hx]))
  obtain ⟨rfl, rfl⟩ := trodVars_none hV
  clear hA0
  exact law_post 4 laid reads rfl Tryd.underlying4 rfl hW' ⟨rfl, rfl, rfl⟩ (law_any p0a cap0 l0 W hg i0)

set_option maxRecDepth 100000 in
theorem lifted (os : Os) (started : os.Started) (H : Type) (enc : TypeId × Value → H) (F : Stop.Interp) :
    ReturnsInHanded {} Tryd.checked os 3 .any ((OpenSpec.ofChange Rows.cobsSaysSpec).preRow enc Tryd.prog Tryd.f3 Rows.cobsSaysRow.domain false Rows.cobsSaysRow.laid) (((OpenSpec.ofChange Rows.cobsSaysSpec).at F).post enc Tryd.prog Tryd.f3 false true false false) := by
  obtain ⟨places, hx⟩ := reads_wit os enc
  refine returnsInHanded_of_row (C := Tryd.checked) (s := (OpenSpec.ofChange Rows.cobsSaysSpec)) own started (by kernel_rfl) Tryd.func3
    (witness_row_at (enc := enc) (C := Tryd.checked) false (laidWorld os) #[.slice none 0 0] rfl (by kernel_rfl) (by kernel_rfl) (by kernel_rfl)
      (OpenSpec.preRow_of_cond 8 hx (by kernel_rfl) (fun k hk => by cases hk) (by kernel_rfl) (laid_met os))) ?_
  intro W base args ds gs before hval hW _ hcond _ hL _ _
  exact contract H enc W base args ds gs before hval hW hL

theorem said : Rows.CobsSaysSaid :=
  OpenClaim.holds_of_cond 3 Tryd.f3 rfl rfl rfl rfl rfl rfl rfl ⟨rfl, rfl, rfl, rfl, rfl⟩ rfl rfl rfl rfl rfl (by kernel_rfl) Tryd.func3 (by kernel_rfl)
    (of_decide_eq_true (by kernel_rfl)) (by unfold Func.isWrapper; first | (rw [if_pos (by decide +kernel)]; kernel_rfl) | (rw [if_neg (by decide +kernel)]; exact ⟨rfl, rfl⟩))
    (fun os started H enc _ F => by rw [OpenClaim.pre_eq_preRow]; exact lifted os started H enc F)

theorem plain (f : FuncId) (fn : Func) (hf : Tryd.pinned.checked.prog.funcNamed Rows.cobsSaysRow.func = some f) (hfn : Tryd.pinned.checked.prog.funcs[f]? = some fn) :
    true = Tryd.pinned.checked.prog.looks [] ∧ ∀ (j : Nat) t, fn.params[j]? = some t → Tryd.pinned.checked.prog.wantsStandIn t = false := by
  obtain rfl : f = 3 := Option.some.inj ((show Tryd.prog.funcNamed Rows.cobsSaysRow.func = some 3 by kernel_rfl).symm.trans hf) |>.symm
  obtain rfl : fn = Tryd.f3 := (Option.some.inj (Tryd.func3.symm.trans hfn)).symm
  refine ⟨by kernel_rfl, fun j t ht => ?_⟩
  have hall : Tryd.f3.params.toList.all (fun t => !Tryd.prog.wantsStandIn t) = true := by kernel_rfl
  have hm : t ∈ Tryd.f3.params.toList := by simpa using Array.mem_of_getElem? ht
  have := List.all_eq_true.1 hall t hm
  show Tryd.prog.wantsStandIn t = false
  simpa using this

theorem proved : Rows.CobsSaysCardSaid :=
  Claim7.holds_tied_plain_at .later [] _ _ _ _ said (fun _ h => by cases h) (by kernel_rfl) (fun _ h => by cases h) cobsSays_row_tie rfl ⟨rfl, rfl⟩ (by kernel_rfl) rfl plain (by kernel_rfl)

end Go.Proofs.YtnpbdfmeaklbnaaDoor.cobsSaysP
