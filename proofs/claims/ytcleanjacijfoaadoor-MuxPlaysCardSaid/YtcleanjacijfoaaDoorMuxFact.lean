/- Package mux, the laws: frameOf, and the closed fact. No statement is proved here. -/
import Derived.Test.YtcleanjacijfoaaDoorMux3
import Derived.Test.YtcleanjacijfoaaDoorIn4
import Derived.Test.YtcleanjacijfoaaDoorCell3
namespace Go.Proofs.YtcleanjacijfoaaDoor.Mux
open Go.ChangeShapes Go.WideShapes Go.ChangeAt Go.RowKit Go.Proofs.YtcleanjacijfoaaDoor.Kit Go.Proofs.YtcleanjacijfoaaDoor.App Go.Proofs.YtcleanjacijfoaaDoor.Cells Go.Proofs.YtcleanjacijfoaaDoor.Err
set_option linter.unusedVariables false
set_option maxRecDepth 20000
set_option maxHeartbeats 2000000

theorem frame_any (a b : Int) (s : ByteArray) (w : World) : Calls Tryd.prog 10 #[.int .i64 a, .int .i64 b, .string s] w fun e w' => e = .returned (val ⟨a, b, s⟩) ∧ Below w.heap.size w w' := by
  go_enter Tryd.func10, Tryd.ntmps10
  go_wp2_with fail
  have bx := Box.new w ⟨a, b, s⟩ 24
  exact bodyPost_ret (results_three rfl Tryd.isAgg24 Tryd.sizeOf24 _ _ _ rfl rfl rfl _ _ _ bx.2.1 bx.2.2.1 bx.2.2.2) rfl ⟨rfl, balloc (brefl w) _⟩
def z0 : Nat → Nat := fun _ => 0
def sC : ByteArray := ⟨#[99]⟩
def sAB : ByteArray := ⟨#[97, 98]⟩
def sABC : ByteArray := ⟨#[97, 98, 99]⟩
def d1 : Nat → Nat := putM z0 ⟨1, 2, sC⟩
def r1 : Nat → Nat := readR d1 z0 1
def d2 : Nat → Nat := putM d1 ⟨1, 0, sAB⟩
def r2 : Nat → Nat := readR d2 r1 1
theorem k1 : codeM z0 ⟨1, 2, sC⟩ = 0 := by decide +kernel
theorem k2 : textM d1 z0 1 = ByteArray.empty := by decide +kernel
theorem k4 : codeM d1 ⟨1, 0, sAB⟩ = 0 := by decide +kernel
theorem k5 : textM d2 r1 1 = sABC := by decide +kernel
theorem k6 : codeR 1 = 0 := by decide +kernel
theorem k8 : (sABC.toList == ([97, 98, 99] : List UInt8)) = true := by decide +kernel
theorem wait_le (d : Nat → Nat) (b a : Nat) : wait d b a ≤ 200 := by
  unfold wait
  refine Nat.le_trans (List.length_filter_le _ _) ?_
  rw [List.length_range]
  omega
theorem waitM_in (d r : Nat → Nat) (n : Int) : 0 ≤ waitM d r n ∧ waitM d r n ≤ 200 := by
  unfold waitM
  split
  · have := wait_le d (200 * n.toNat) (r n.toNat); omega
  · omega
theorem k7 : codeM z0 ⟨1, 2, ⟨#[99]⟩⟩ = 0 := k1
theorem gb {a w w' : World} {g : Nat} (h : Below a.heap.size a w) (hg : w.grownBy w' (some g)) (hl : a.heap.size ≤ g) : Below a.heap.size a w' := gbelow h (Nat.le_refl _) hg hl
theorem fact_any (w : World) : Calls Tryd.prog 5 #[] w fun e w' => e = .returned (.bool true) ∧ Below w.heap.size w w' := by
  have t9 := k8
  have N0 := Lib.hid (new_any w)
  have F1 := Lib.hid (fun W => frame_any 1 2 sC W)
  have F2 := Lib.hid (fun W => frame_any 1 0 sAB W)
  have P1 := Lib.hid (fun g W H => put_any g z0 z0 ⟨1, 2, sC⟩ W H 0 k1 d1 rfl)
  have R1 := Lib.hid (fun g W H => read_any g d1 z0 (Okm.zero.put _) 1 W H _ k2 0 k6 r1 rfl)
  have P2 := Lib.hid (fun g W H => put_any g d1 r1 ⟨1, 0, sAB⟩ W H 0 k4 d2 rfl)
  have R2 := Lib.hid (fun g W H => read_any g d2 r1 (((Okm.zero.put _).read _).put _) 1 W H _ k5 0 k6 r2 rfl)
  rw [er_0] at P1 R1 P2 R2
  unfold val at F1 F2 P1 P2
  go_enter Tryd.func5, Tryd.ntmps5
  go_wp2_with fail
  refine N0.out.mono ?_; rintro e w1 ⟨rfl, hE, hb⟩
  obtain ⟨g, hg⟩ : ∃ g, w.heap.size = g := ⟨_, rfl⟩
  have HE1 := Lib.hid (show Ends w1 g z0 z0 by rw [← hg]; exact hE)
  have HB1 := Lib.hid hb
  rw [hg]
  have HG := Lib.hid (Nat.le_of_eq hg)
  clear hE hb hg N0
  go_wp2_with fail
  refine (F1.out _).mono ?_; rintro e w2 ⟨rfl, hb⟩
  have HE2 := Lib.hid (HE1.out.below hb)
  have HB2 := Lib.hid (bcall HB1.out hb)
  clear hb F1 HE1 HB1
  go_wp2_with fail
  refine (P1.out g _ HE2.out).mono ?_; rintro e w3 ⟨rfl, hE, hg⟩
  have HE3 := Lib.hid hE
  have HB3 := Lib.hid (gb HB2.out hg HG.out)
  clear hE hg P1 HE2 HB2
  go_wp2_with fail
  refine (R1.out g _ HE3.out).mono ?_; rintro e w4 ⟨rfl, hE, hg⟩
  have HE4 := Lib.hid hE
  have HB4 := Lib.hid (gb HB3.out hg HG.out)
  clear hE hg R1 HE3 HB3
  go_wp2_with fail
  refine (F2.out _).mono ?_; rintro e w5 ⟨rfl, hb⟩
  have HE5 := Lib.hid (HE4.out.below hb)
  have HB5 := Lib.hid (bcall HB4.out hb)
  clear hb F2 HE4 HB4
  go_wp2_with fail
  refine (P2.out g _ HE5.out).mono ?_; rintro e w6 ⟨rfl, hE, hg⟩
  have HE6 := Lib.hid hE
  have HB6 := Lib.hid (gb HB5.out hg HG.out)
  clear hE hg P2 HE5 HB5
  go_wp2_with fail
  refine (R2.out g _ HE6.out).mono ?_; rintro e w7 ⟨rfl, hE, hg⟩
  have HB7 := Lib.hid (gb HB6.out hg HG.out)
  clear hE hg R2 HE6 HB6
  go_wp2_with fail
  go_ret
  exact ⟨rfl, HB7.out⟩
end Go.Proofs.YtcleanjacijfoaaDoor.Mux
