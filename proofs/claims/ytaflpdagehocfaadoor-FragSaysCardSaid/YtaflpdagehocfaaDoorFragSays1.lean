/- The functions of package frag return what the document specifies: the law returns true for every input. No condition. -/
import Derived.Test.YtaflpdagehocfaaDoorFragSays0
import Derived.Test.YtaflpdagehocfaaDoorOrderWant
import Derived.Test.YtaflpdagehocfaaDoorCards
import Derived.Test.YtaflpdagehocfaaDoorTie
import Derived.Deep.DeepHandedRow
import Derived.Lib.LaidTab
import Derived.LaidHandle
import Derived.SevenTiedAt
namespace Go.Proofs.YtaflpdagehocfaaDoor.fragSaysP
open Go.ChangeShapes Go.WideShapes Go.ChangeAt Go.RowKit
open Go.Proofs.YtaflpdagehocfaaDoor.Kit Go.Proofs.YtaflpdagehocfaaDoor.App Go.Proofs.YtaflpdagehocfaaDoor.Cells Go.Proofs.YtaflpdagehocfaaDoor.Part Go.Proofs.YtaflpdagehocfaaDoor.As
set_option linter.unusedVariables false
set_option maxRecDepth 20000

theorem oc_drewN {L : Lay Prt} {e : TypeId} {w : World} {base : Nat} {v : Value} {ls : List Prt} (h : OC L e w base v ls) (n : Nat) : OC L e (w.drewN n) base v ls := h
abbrev Law (s : ByteArray) (a : Int) (x : Prt) (p : Option Addr) (cap : Nat) (l : List Prt) (w : World) : Prop := Calls Tryd.prog 3 #[.string s, .int .i64 a, val x, .slice p l.length cap] w fun e w' => e = .returned (.bool true) ∧ Below w.heap.size w w'
set_option maxHeartbeats 8000000 in
theorem law_many (s : ByteArray) (a0 : Int) (x : Prt) (p : Option Addr) (cap : Nat) (l : List Prt) (w : World) (hg : Handle w) (hx : Fits x) (hc : CI lay w p cap l) (hF : ∀ x ∈ l, Fits x) (h40 : 40 < l.length) : Law s a0 x p cap l w := by
  obtain ⟨V1, e1, L1, rc1, fc1, er1⟩ := both_cut s a0
  obtain ⟨V2, e2, L2, rc2, fc2, er2⟩ := both_again x a0 hx
  obtain ⟨V3, e3, rs, rc3, fc3, er3⟩ := both_join p cap l hF
  have RC1 := Lib.hid rc1
  have FC1 := Lib.hid fc1
  have ER1 := Lib.hid er1
  have ER2 := Lib.hid er2
  have RJ := Lib.hid rc3
  have FJ := Lib.hid fc3
  have ER3 := Lib.hid er3
  have HG := Lib.hid (fun W (hb : Below w.heap.size w W) => hg.below hb)
  have HC := Lib.hid (fun W (hb : Below w.heap.size w W) => hc.below hb)
  have hlen := hc.len_le
  have hmix := mixedP
  have u0 : (rs.toList == rs.toList) = true := by simp
  have t0 : decide ((l.length : Int) > 40) = true := decide_eq_true (by omega)
  have t1 : decide ((0 : Int) < (l.length : Int)) = true := decide_eq_true (by omega)
  have FO := Lib.hid (fun W (hb : Below w.heap.size w W) => Srt.forder_big p cap l.length l W rfl (hc.below hb) h40)
  obtain ⟨xp, xm, xs⟩ := x
  unfold val at rc2 fc2
  simp only at rc2 fc2
  have RC2 := Lib.hid rc2
  have FC2 := Lib.hid fc2
  clear rc1 fc1 er1 rc2 fc2 er2 rc3 fc3 er3 hg hc hF hx
  unfold Law val
  simp only
  go_enter Tryd.func3, Tryd.ntmps3
  go_wp2_with fail
  have B0 : Below w.heap.size w (w.alloc (.cells #[.int .i64 xp, .bool xm, .string xs] 23)) := balloc (brefl w) _
  have bx := Box.new w ⟨xp, xm, xs⟩ 23
  refine (RC1.out _).mono ?_; rintro e w11 ⟨p11, c11, rfl, i11, hb⟩
  have B11 := B0.trans (hb.mono B0.size)
  have bx := bx.below hb (by simp)
  clear hb
  go_wp2_with fail
  refine (FC1.out _).mono ?_; rintro e w12 ⟨p12, c12, rfl, i12, hb⟩
  have B12 := bcall B11 hb
  have i11 := i11.below hb
  have bx := bx.below hb bx.1
  clear hb
  go_wp2_with fail
  refine (ER1.out _ (HG.out _ B12)).mono ?_; rintro e w13 ⟨rfl, hb⟩
  have B13 := bcall B12 hb
  have i11 := i11.below hb
  have i12 := i12.below hb
  have bx := bx.below hb bx.1
  clear hb
  go_wp2_with fail
  refine (parts_any p12 p11 c12 c11 L1.length L1.length L1 L1 w13 rfl rfl i12 i11 true ⟨fun _ => rfl, fun _ => rfl⟩).mono ?_; rintro e w14 ⟨rfl, q1, rfl⟩
  have B14 := below_drewN B13 q1
  clear i11 i12 B11 B12 B13
  have bx := bx.below (below_drewN (brefl w13) q1) bx.1
  have BX := Lib.hid bx
  obtain ⟨bx0, x0, x1, x2⟩ := bx
  simp only at x0 x1 x2
  go_wp2_with fail
  refine (RC2.out _).mono ?_; rintro e w21 ⟨p21, c21, rfl, i21, hb⟩
  have B21 := B14.trans (hb.mono B14.size)
  have bx2 := BX.out.below hb bx0
  obtain ⟨_, y0, y1, y2⟩ := bx2
  simp only at y0 y1 y2
  clear x0 x1 x2
  clear hb
  go_wp2_with fail
  refine (FC2.out _).mono ?_; rintro e w22 ⟨p22, c22, rfl, i22, hb⟩
  have B22 := bcall B21 hb
  have i21 := i21.below hb
  clear y0 y1 y2
  clear hb
  go_wp2_with fail
  refine (ER2.out _ (HG.out _ B22)).mono ?_; rintro e w23 ⟨rfl, hb⟩
  have B23 := bcall B22 hb
  have i21 := i21.below hb
  have i22 := i22.below hb
  clear hb
  go_wp2_with fail
  refine (parts_any p22 p21 c22 c21 L2.length L2.length L2 L2 w23 rfl rfl i22 i21 true ⟨fun _ => rfl, fun _ => rfl⟩).mono ?_; rintro e w24 ⟨rfl, q2, rfl⟩
  have B24 := below_drewN B23 q2
  clear i21 i22 B21 B22 B23
  go_wp2_with fail
  refine (RJ.out _ (HC.out _ B24)).mono ?_; rintro e w31 ⟨rfl, hb⟩
  have B31 := bcall B24 hb
  clear hb
  go_wp2_with fail
  refine (FJ.out _ (HC.out _ B31)).mono ?_; rintro e w32 ⟨rfl, hb⟩
  have B32 := bcall B31 hb
  clear hb
  go_wp2_with fail
  refine (ER3.out _ (HG.out _ B32)).mono ?_; rintro e w33 ⟨rfl, hb⟩
  have BS := bcall B32 hb
  clear hb
  go_wp2_with fail
  refine wp_loop_rounds 1 ?_
  rw [rounds_succ]
  go_wp2_with fail
  refine (FO.out _ BS).mono ?_; rintro e w7 ⟨rfl, rfl⟩
  go_wp2_with fail
  refine (err_hit 4 _ (HG.out _ BS)).mono ?_; rintro e w8 ⟨rfl, hb⟩
  have B8 := bcall BS hb
  clear hb
  go_wp2_with fail
  refine (parts_any none none 0 0 0 0 [] [] w8 rfl rfl (CI.nil _ _) (CI.nil _ _) true ⟨fun _ => rfl, fun _ => rfl⟩).mono ?_; rintro e w9 ⟨rfl, q9, rfl⟩
  have B9 := below_drewN B8 q9
  go_wp2_with fail
  go_ret
  exact ⟨rfl, B9⟩
end Go.Proofs.YtaflpdagehocfaaDoor.fragSaysP
