/- Package wheel: New and Left. No statement is proved here. -/
import Derived.Test.YtjknojfdlpgicaaDoorWheelSt
import Derived.Test.YtjknojfdlpgicaaDoorOnce
import Derived.Deep.RegionLaw
namespace Go.Proofs.YtjknojfdlpgicaaDoor.Wheel
open Go.ChangeShapes Go.WideShapes Go.ChangeAt Go.RowKit Go.Proofs.YtjknojfdlpgicaaDoor.Kit Go.Proofs.YtjknojfdlpgicaaDoor.App Go.Proofs.YtjknojfdlpgicaaDoor.Queue Go.Proofs.YtjknojfdlpgicaaDoor.MapZ Go.Proofs.YtjknojfdlpgicaaDoor.WheelMath
set_option linter.unusedVariables false
set_option maxRecDepth 20000
set_option maxHeartbeats 1000000

def noneW : Nat → Value := fun _ => .slice none 0 0
def zeroW : Array Value := (List.replicate 400 (Value.slice none 0 0) ++ [Value.int .i64 0, Value.map none] : List Value).toArray
theorem zero_run (W : World) : (zeroValue 41).run Tryd.prog W = .ok (.agg zeroW) W := by kernel_rfl
theorem zero_size : zeroW.size = 402 := by kernel_rfl
theorem zero_set (m : Nat) : zeroW.setIfInBounds 401 (.map (some m)) = (cellsW m 0 noneW).toArray := by kernel_rfl
theorem new_any (w : World) : Calls Tryd.prog 6 #[] w fun e w' => ∃ b, e = .returned (.pointer (some ⟨b, 0, none⟩)) ∧ Wh (fun k => k < w.heap.size) w' b 0 (fun _ => 0) ∧ Below w.heap.size w w' := by
  have hmm := @run_makeMap Tryd.prog
  have hz := zero_run
  have hsz := zero_size
  have HZ := Lib.hid (zero_set w.heap.size)
  generalize zeroW = Z at hz hsz HZ
  go_enter Tryd.func6, Tryd.ntmps6
  go_wp2_with fail
  go_ret
  refine ⟨_, rfl, ⟨w.heap.size, 0, noneW, fun _ => [], fun _ => none, ?_, inv_new⟩, balloc (balloc (brefl w) _) _⟩
  have hm := Mz.made w
  generalize hw1 : w.alloc (.map #[] 0) = w1 at hm ⊢
  have hs : w1.heap.size = w.heap.size + 1 := by rw [← hw1]; simp
  have key : ∀ Z' : Array Value, Z' = (cellsW w.heap.size 0 noneW).toArray → St (fun k => k < w.heap.size) (w1.alloc (.cells Z' 41)) (w.heap.size + 1) w.heap.size 0 0 noneW (fun _ => []) (fun _ => none) := fun Z' hz' => by
    subst hz'
    refine ⟨by rw [← hs]; exact Blk.new w1 _ _, hm.kept (World.grownBy_alloc w1 _ none) (by simp), fun s _ => OwnQ.nil _ _, by omega, fun s _ k hk => by simp [noneW, Value.ownBlock] at hk, fun s t _ _ _ => Apt.nil _, by omega, by omega, fun k hk => by simp; omega⟩
  first
    | exact key _ (by first | exact HZ.out | kernel_rfl)
    | (rw [hs]; exact key _ (by first | exact HZ.out | kernel_rfl))

theorem left_any (X : Nat → Prop) (b n : Nat) (left : Int → Nat) (i : Int) (w : World) (H : Wh X w b n left) (hi : (Lit.int .i64 i).wf = true) :
    Calls Tryd.prog 12 #[.pointer (some ⟨b, 0, none⟩), .int .i64 i] w fun e w' => e = .returned (.int .i64 (if left i = 0 then -1 else left i)) ∧ ∃ m, w' = w.drewN m := by
  obtain ⟨m, now, sv, q, h, hS, hI⟩ := H
  have c0 := hS.blk.cell 400 _ (cells_now m now sv)
  have c1 := hS.blk.cell 401 _ (cells_map m now sv)
  have hlk := hS.map.look_ok hi
  have hnow := hI.lt
  rcases left_key hI i with ⟨h1, h2⟩ | ⟨h1, h2, h3, s, h4, h5, h6, h7⟩
  · rw [h2] at hlk
    rw [if_pos h1]
    have hlk : (Instr.lookup 38 (.map (some m)) (.int .i64 i) true).run Tryd.prog w = .ok (.tuple #[.int .i64 0, .bool false]) w := hlk
    clear hS hI h1 h2
    go_enter Tryd.func12, Tryd.ntmps12
    go_wp2_with fail
    go_ret
    exact ⟨rfl, 0, rfl⟩
  · rw [h6] at hlk
    rw [if_neg h1]
    have hlk : (Instr.lookup 38 (.map (some m)) (.int .i64 i) true).run Tryd.prog w = .ok (.tuple #[.int .i64 (s : Int), .bool true]) w := hlk
    have h8 : ((s : Int) - now - 1) % 400 + 1 = left i := by rw [Int.tmod_eq_emod_of_nonneg (by omega)] at h7; omega
    have h7 := Lib.hid h8
    clear h8
    have hb : 0 ≤ ((s : Int) - now - 1 + 400).tmod 400 ∧ ((s : Int) - now - 1 + 400).tmod 400 < 400 := by
      rw [Int.tmod_eq_emod_of_nonneg (by omega)]
      omega
    clear hS hI h1 h2 h5 h6
    go_enter Tryd.func12, Tryd.ntmps12
    go_wp2_with fail
    go_ret
    exact ⟨by show Ending.returned (.int .i64 (((s : Int) - now - 1) % 400 + 1)) = _; rw [h7.out], 0, rfl⟩
end Go.Proofs.YtjknojfdlpgicaaDoor.Wheel
