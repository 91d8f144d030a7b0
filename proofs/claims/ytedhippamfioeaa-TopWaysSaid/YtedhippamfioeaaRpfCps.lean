/- Reverse path forwarding: counts as a list of numbers. No statement is proved here. -/
import Derived.Test.YtedhippamfioeaaRpfMath
namespace Go.Proofs.Ytedhippamfioeaa.Rpf
set_option linter.unusedVariables false

/-- Counts as a list. -/
def cps (n : Nat) (f : Nat → Nat) : List Int := (List.range n).map fun v => ((f v : Nat) : Int)
theorem cps_len (n : Nat) (f : Nat → Nat) : (cps n f).length = n := by simp [cps]
theorem cps_get (n : Nat) (f : Nat → Nat) {v : Nat} (h : v < n) : (cps n f)[v]?.getD 0 = ((f v : Nat) : Int) := by simp [cps, h]
theorem cps_congr {n : Nat} {f f' : Nat → Nat} (h : ∀ v, v < n → f v = f' v) : cps n f = cps n f' := List.map_congr_left fun v hv => by rw [h v (List.mem_range.1 hv)]
theorem cps_zero (n : Nat) : cps n (fun _ => 0) = List.replicate n 0 := by
  unfold cps
  refine List.ext_getElem (by simp) fun i h1 h2 => ?_
  simp
theorem cps_set {n : Nat} {f f' : Nat → Nat} {v : Nat} (hv : v < n) (h : f' v = f v + 1) (h' : ∀ u, u ≠ v → f' u = f u) : (cps n f).set v (((f v : Nat) : Int) + 1) = cps n f' := by
  unfold cps
  refine List.ext_getElem (by simp) fun i h1 h2 => ?_
  rw [List.getElem_set]
  by_cases e : v = i
  · subst e
    rw [if_pos rfl]
    simp [h]
  · rw [if_neg e]
    simp [h' i (fun h => e h.symm)]
end Go.Proofs.Ytedhippamfioeaa.Rpf
