/- The document's answer on shortest paths: Far as it stands here. No statement is proved here. -/
import Derived.Test.YtedhippamfioeaaDoorSpfTrail
import Derived.Test.YtedhippamfioeaaDoorVecWalks
import Derived.BigQuiet
namespace Go.Proofs.YtedhippamfioeaaDoor.Spf
open Go.ChangeShapes Go.WideShapes Go.ChangeAt Go.RowKit Go.Proofs.YtedhippamfioeaaDoor.Kit Go.Proofs.YtedhippamfioeaaDoor.App Go.Proofs.YtedhippamfioeaaDoor.Cells Go.Proofs.YtedhippamfioeaaDoor.Err Go.Proofs.YtedhippamfioeaaDoor.Vector
set_option linter.unusedVariables false
set_option maxRecDepth 20000
set_option maxHeartbeats 2000000

theorem far_ds {n : Nat} {ls : List Lk} (g : Vector.Good n ls) (s : Nat) : rw1 n (D ls n s) = rw1 n (ds ls s) := rw1_congr fun j hj => D_end g hj (by omega) (by have := g.up; omega)
theorem rfar_ds (n t : Nat) (p : Option Addr) (cap m : Nat) (ls : List Lk) (w : World) (g : Vector.Good n ls) (hm : m = ls.length) (hi : CI layL w p cap ls) (ht : t < n) :
    Calls Tryd.prog 22 #[.int .i64 (n : Int), .slice p m cap, .int .i64 (t : Int)] w fun e w' => ∃ q c, e = .returned (.slice q n c) ∧ Ints w' q c (rw1 n (ds ls t)) ∧ Below w.heap.size w w' := by
  rw [← far_ds g]
  exact rfar_any n t p cap m ls w g hm hi ht
end Go.Proofs.YtedhippamfioeaaDoor.Spf
