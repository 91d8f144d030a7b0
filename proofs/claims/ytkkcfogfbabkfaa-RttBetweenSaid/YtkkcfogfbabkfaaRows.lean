/-
  No cell of these rows narrows 'for every input' (looked for: loops, veiled, ifaces, maps, wideKeys, modest, calm, conditions, laid).
  DERIVED. THE GIVEN ROWS OF THIS SEAT. 4 by the template 'for every input the law returns true; each argument reads behind the call as it read before'; 0 by the template 'total and deterministic' (their statements: YtkkcfogfbabkfaaTotals.lean).
  GIVEN WITH THE SEED: the statements are not yours to turn. If you find one false, say at which input.
  Laid BY PROGRAM, IN A SANDBOX (cutbox-rows.mjs): the forced cells as the released guide's own fill.sh prints them over the translation 2c12f3ee1765080a… (all of the seat's roots in one cut). By AI agents, Wed Nov 11 2026. No macro, syntax, notation, axiom, sorry.
-/
import Derived.Test.YtkkcfogfbabkfaaChecked
import GoSem.Claim
import GoSem.ClaimJoined
import GoSem.ClaimMapViews
import Derived.JoinedTies
import Derived.KernelRfl
namespace Go.Proofs.Ytkkcfogfbabkfaa
/- THE CELL 'sum', in the pinned program and in every row, IS THE sha256 OF THE DUMP (.gsa) THAT YtkkcfogfbabkfaaProg.lean LOADS. Nothing in Lean hashes anything: it is a label: what it is worth is what the hold of that sum in a sandbox is worth. -/
noncomputable def Try.pinned : Pinned := { name := "ytkkcfogfbabkfaa", sum := "2c12f3ee1765080a4a84b7ff64ac8c494a22cf13399bcc93488f12eb95b0def3", checked := Try.checked }
namespace Rows
def none {H : Type} : Left H := { results := [], args := [] }

/-- 'ferryhythelaw2.RttBetween': WHATEVER THE INPUT: true; the input reads as it did. -/
def rttBetweenSpec : ChangeSpec := { name := "rttBetween", fn := fun _ => fun
  | [d] => { results := [.lit (.bool true)], args := [d] }
  | _ => none }
def rttBetweenRow : OpenClaim := { program := "ytkkcfogfbabkfaa", sum := "2c12f3ee1765080a4a84b7ff64ac8c494a22cf13399bcc93488f12eb95b0def3", func := "ferryhythe/ferryhythelaw2.RttBetween", spec := "rttBetween", apart := false }
def RttBetweenSaid : Prop := rttBetweenRow.holds Try.pinned (OpenSpec.ofChange rttBetweenSpec)

/-- ITS FALSE NEIGHBOUR: 'it returns false'. Refute it at one input. -/
def rttBetweenWrong : ChangeSpec := { name := "rttBetween", fn := fun _ => fun
  | [d] => { results := [.lit (.bool false)], args := [d] }
  | _ => none }
def RttBetweenWrongFalsely : Prop := rttBetweenRow.holds Try.pinned (OpenSpec.ofChange rttBetweenWrong)

/-- 'ferryhythelaw2.RttPull': WHATEVER THE INPUT: true; the input reads as it did. -/
def rttPullSpec : ChangeSpec := { name := "rttPull", fn := fun _ => fun
  | [d1, d2] => { results := [.lit (.bool true)], args := [d1, d2] }
  | _ => none }
def rttPullRow : OpenClaim := { program := "ytkkcfogfbabkfaa", sum := "2c12f3ee1765080a4a84b7ff64ac8c494a22cf13399bcc93488f12eb95b0def3", func := "ferryhythe/ferryhythelaw2.RttPull", spec := "rttPull", apart := false }
def RttPullSaid : Prop := rttPullRow.holds Try.pinned (OpenSpec.ofChange rttPullSpec)

/-- ITS FALSE NEIGHBOUR: 'it returns false'. Refute it at one input. -/
def rttPullWrong : ChangeSpec := { name := "rttPull", fn := fun _ => fun
  | [d1, d2] => { results := [.lit (.bool false)], args := [d1, d2] }
  | _ => none }
def RttPullWrongFalsely : Prop := rttPullRow.holds Try.pinned (OpenSpec.ofChange rttPullWrong)

/-- 'ferryhythelaw2.RttSteady': WHATEVER THE INPUT: true; the input reads as it did. -/
def rttSteadySpec : ChangeSpec := { name := "rttSteady", fn := fun _ => fun
  | [d1, d2] => { results := [.lit (.bool true)], args := [d1, d2] }
  | _ => none }
def rttSteadyRow : OpenClaim := { program := "ytkkcfogfbabkfaa", sum := "2c12f3ee1765080a4a84b7ff64ac8c494a22cf13399bcc93488f12eb95b0def3", func := "ferryhythe/ferryhythelaw2.RttSteady", spec := "rttSteady", apart := false }
def RttSteadySaid : Prop := rttSteadyRow.holds Try.pinned (OpenSpec.ofChange rttSteadySpec)

/-- ITS FALSE NEIGHBOUR: 'it returns false'. Refute it at one input. -/
def rttSteadyWrong : ChangeSpec := { name := "rttSteady", fn := fun _ => fun
  | [d1, d2] => { results := [.lit (.bool false)], args := [d1, d2] }
  | _ => none }
def RttSteadyWrongFalsely : Prop := rttSteadyRow.holds Try.pinned (OpenSpec.ofChange rttSteadyWrong)

/-- 'ferryhythelaw2.RttLate': WHATEVER THE INPUT: true; the input reads as it did. -/
def rttLateSpec : ChangeSpec := { name := "rttLate", fn := fun _ => fun
  | [d1, d2] => { results := [.lit (.bool true)], args := [d1, d2] }
  | _ => none }
def rttLateRow : OpenClaim := { program := "ytkkcfogfbabkfaa", sum := "2c12f3ee1765080a4a84b7ff64ac8c494a22cf13399bcc93488f12eb95b0def3", func := "ferryhythe/ferryhythelaw2.RttLate", spec := "rttLate", apart := false }
def RttLateSaid : Prop := rttLateRow.holds Try.pinned (OpenSpec.ofChange rttLateSpec)

/-- ITS FALSE NEIGHBOUR: 'it returns false'. Refute it at one input. -/
def rttLateWrong : ChangeSpec := { name := "rttLate", fn := fun _ => fun
  | [d1, d2] => { results := [.lit (.bool false)], args := [d1, d2] }
  | _ => none }
def RttLateWrongFalsely : Prop := rttLateRow.holds Try.pinned (OpenSpec.ofChange rttLateWrong)

/- THE SECOND FORM. 'bulk': how many values and letters a reading holds, each counted each time it is reached (what is shared counts as often as it is met; a slice's spare places count too). A statement '..UptoSaid' is the law's where the arguments, and the package variables that the reading takes, are together of bulk at most 1048576: NARROWER than '..Said'. Prove '..Said' where nothing that the law and all that it calls make is longer than what came in: it says more and counts as full. Else prove '..UptoSaid'. A law counts once. -/
mutual
def uptoBulk {H : Type} : DataW H → Nat
  | .lit (.string bytes) => bytes.length + 1
  | .lit _ => 1
  | .nil => 1
  | .ptr d => uptoBulk d + 1
  | .slice elems spare => uptoBulkAll elems + uptoBulkAll spare + 1
  | .agg parts => uptoBulkAll parts + 1
  | .iface _ d => uptoBulk d + 1
  | .map entries => uptoBulkEntries entries + 1
  | .held _ => 1
def uptoBulkAll {H : Type} : List (DataW H) → Nat
  | [] => 0
  | d :: r => uptoBulk d + uptoBulkAll r
def uptoBulkEntries {H : Type} : List (Lit × DataW H) → Nat
  | [] => 0
  | x :: r => uptoBulkEntry x + uptoBulkEntries r
def uptoBulkEntry {H : Type} : Lit × DataW H → Nat
  | (.string bytes, d) => bytes.length + uptoBulk d + 1
  | (_, d) => uptoBulk d + 1
 end
def uptoSmall : (H : Type) → List (DataW H) → Bool := fun _ ds => decide (uptoBulkAll ds ≤ 1048576)
def OpenSpec.upto (s : _root_.Go.ChangeSpec) : _root_.Go.OpenSpec := { _root_.Go.OpenSpec.ofChange s with cond := some uptoSmall }

/-- 'ferryhythelaw2.RttBetween', WHERE WHAT IT READS IS OF BULK AT MOST 1048576: true; the input reads as it did. -/
def rttBetweenUptoRow : OpenClaim := { program := "ytkkcfogfbabkfaa", sum := "2c12f3ee1765080a4a84b7ff64ac8c494a22cf13399bcc93488f12eb95b0def3", func := "ferryhythe/ferryhythelaw2.RttBetween", spec := "rttBetween", apart := false, narrowed := true }
def RttBetweenUptoSaid : Prop := rttBetweenUptoRow.holds Try.pinned (OpenSpec.upto rttBetweenSpec)

/-- 'ferryhythelaw2.RttPull', WHERE WHAT IT READS IS OF BULK AT MOST 1048576: true; the input reads as it did. -/
def rttPullUptoRow : OpenClaim := { program := "ytkkcfogfbabkfaa", sum := "2c12f3ee1765080a4a84b7ff64ac8c494a22cf13399bcc93488f12eb95b0def3", func := "ferryhythe/ferryhythelaw2.RttPull", spec := "rttPull", apart := false, narrowed := true }
def RttPullUptoSaid : Prop := rttPullUptoRow.holds Try.pinned (OpenSpec.upto rttPullSpec)

/-- 'ferryhythelaw2.RttSteady', WHERE WHAT IT READS IS OF BULK AT MOST 1048576: true; the input reads as it did. -/
def rttSteadyUptoRow : OpenClaim := { program := "ytkkcfogfbabkfaa", sum := "2c12f3ee1765080a4a84b7ff64ac8c494a22cf13399bcc93488f12eb95b0def3", func := "ferryhythe/ferryhythelaw2.RttSteady", spec := "rttSteady", apart := false, narrowed := true }
def RttSteadyUptoSaid : Prop := rttSteadyUptoRow.holds Try.pinned (OpenSpec.upto rttSteadySpec)

/-- 'ferryhythelaw2.RttLate', WHERE WHAT IT READS IS OF BULK AT MOST 1048576: true; the input reads as it did. -/
def rttLateUptoRow : OpenClaim := { program := "ytkkcfogfbabkfaa", sum := "2c12f3ee1765080a4a84b7ff64ac8c494a22cf13399bcc93488f12eb95b0def3", func := "ferryhythe/ferryhythelaw2.RttLate", spec := "rttLate", apart := false, narrowed := true }
def RttLateUptoSaid : Prop := rttLateUptoRow.holds Try.pinned (OpenSpec.upto rttLateSpec)

end Rows
end Go.Proofs.Ytkkcfogfbabkfaa
