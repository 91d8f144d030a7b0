/- Package drr: the queues' methods. No statement is proved here. -/
import Derived.Test.YtckfobkkjiiheaaDrrCheck
namespace Go.Proofs.Ytckfobkkjiiheaa.Drr
open Go.ChangeShapes Go.WideShapes Go.ChangeAt Go.RowKit Go.Proofs.Ytckfobkkjiiheaa.Kit Go.Proofs.Ytckfobkkjiiheaa.App Go.Proofs.Ytckfobkkjiiheaa.Err
set_option linter.unusedVariables false
set_option maxRecDepth 20000
set_option maxHeartbeats 1000000

/- The queues' methods. -/
theorem empty_any (g j n cap : Nat) (p : Option Addr) (w : World) (hc : w.cell? ⟨g, j, none⟩ = some (.slice p n cap)) (R : Bool) (hR : ((n : Int) == 0) = R) :
    Calls Try.prog 27 #[.pointer (some ⟨g, j, none⟩)] w fun e w' => e = .returned (.bool R) ∧ w' = w := by
  have HR := Lib.hid hR
  clear hR
  go_enter Try.func27, Try.ntmps27
  go_wp2_with fail
  go_ret
  exact ⟨by rw [← HR.out]; rfl, rfl⟩
theorem pempty_any (g j n cap : Nat) (p : Option Addr) (w : World) (hc : w.cell? ⟨g, j, none⟩ = some (.slice p n cap)) (R : Bool) (hR : ((n : Int) == 0) = R) :
    Calls Try.prog 24 #[.pointer (some ⟨g, j, none⟩)] w fun e w' => e = .returned (.bool R) ∧ w' = w := by
  have HR := Lib.hid hR
  clear hR
  go_enter Try.func24, Try.ntmps24
  go_wp2_with fail
  go_ret
  exact ⟨by rw [← HR.out]; rfl, rfl⟩
theorem first_any (g j n cap b off : Nat) (x : Int) (w : World) (hc : w.cell? ⟨g, j, none⟩ = some (.slice (some ⟨b, off, none⟩) (n + 1) cap)) (hx : w.cell? ⟨b, off, none⟩ = some (.int .i64 x)) :
    Calls Try.prog 33 #[.pointer (some ⟨g, j, none⟩)] w fun e w' => e = .returned (.int .i64 x) ∧ w' = w := by
  go_enter Try.func33, Try.ntmps33
  go_wp2_with fail
  go_ret
  exact ⟨rfl, rfl⟩
theorem take_any (g j n cap b off : Nat) (x : Int) (q : Option Addr) (c1 m : Nat) (w : World) (hc : w.cell? ⟨g, j, none⟩ = some (.slice (some ⟨b, off, none⟩) (n + 1) cap)) (hf : w.frozen? ⟨g, j, none⟩ = false) (hx : w.cell? ⟨b, off, none⟩ = some (.int .i64 x))
    (hrun : ∀ W, (Instr.slice 22 (.slice (some ⟨b, off, none⟩) (n + 1) cap) (some (.int .i64 1)) none none).run Try.prog W = .ok (.slice q m c1) W) :
    Calls Try.prog 34 #[.pointer (some ⟨g, j, none⟩)] w fun e w' => e = .returned (.int .i64 x) ∧ w' = w.setCell ⟨g, j, none⟩ (.slice q m c1) := by
  go_enter Try.func34, Try.ntmps34
  go_wp2_with fail
  go_ret
  exact ⟨rfl, rfl⟩
theorem ptake_any (g j n cap b off f : Nat) (q : Option Addr) (c1 m : Nat) (w : World) (hc : w.cell? ⟨g, j, none⟩ = some (.slice (some ⟨b, off, none⟩) (n + 1) cap)) (hf : w.frozen? ⟨g, j, none⟩ = false) (hx : w.cell? ⟨b, off, none⟩ = some (.pointer (some ⟨f, 0, none⟩)))
    (hrun : ∀ W, (Instr.slice 62 (.slice (some ⟨b, off, none⟩) (n + 1) cap) (some (.int .i64 1)) none none).run Try.prog W = .ok (.slice q m c1) W) :
    Calls Try.prog 25 #[.pointer (some ⟨g, j, none⟩)] w fun e w' => e = .returned (.pointer (some ⟨f, 0, none⟩)) ∧ w' = w.setCell ⟨g, j, none⟩ (.slice q m c1) := by
  go_enter Try.func25, Try.ntmps25
  go_wp2_with fail
  go_ret
  exact ⟨rfl, rfl⟩
end Go.Proofs.Ytckfobkkjiiheaa.Drr
