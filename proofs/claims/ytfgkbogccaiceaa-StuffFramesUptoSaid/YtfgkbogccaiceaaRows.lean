/-
  No cell of these rows narrows 'for every input' (looked for: loops, veiled, ifaces, maps, wideKeys, modest, calm, conditions, laid).
  DERIVED. THE GIVEN ROWS OF THIS SEAT. 3 by the template 'for every input the law returns true; each argument reads behind the call as it read before'; 0 by the template 'total and deterministic' (their statements: YtfgkbogccaiceaaTotals.lean).
  GIVEN WITH THE SEED: the statements are not yours to turn. If you find one false, say at which input.
  Laid BY PROGRAM, IN A SANDBOX (cutbox-rows.mjs): the forced cells as the released guide's own fill.sh prints them over the translation a35613c46ea1e84a… (all of the seat's roots in one cut). By AI agents, Wed Nov 11 2026. No macro, syntax, notation, axiom, sorry.
-/
import Derived.Test.YtfgkbogccaiceaaChecked
import GoSem.Claim
import GoSem.ClaimJoined
import GoSem.ClaimMapViews
import Derived.JoinedTies
import Derived.KernelRfl
namespace Go.Proofs.Ytfgkbogccaiceaa
/- THE CELL 'sum', in the pinned program and in every row, IS THE sha256 OF THE DUMP (.gsa) THAT YtfgkbogccaiceaaProg.lean LOADS. Nothing in Lean hashes anything: it is a label: what it is worth is what the hold of that sum in a sandbox is worth. -/
noncomputable def Try.pinned : Pinned := { name := "ytfgkbogccaiceaa", sum := "a35613c46ea1e84ae9e149d70aa754473eec2df587fc2c3e7f94c62c55f8c5f3", checked := Try.checked }
namespace Rows
def none {H : Type} : Left H := { results := [], args := [] }

/-- 'ferryhythelaw1.StuffBack': WHATEVER THE INPUT: true; the input reads as it did. -/
def stuffBackSpec : ChangeSpec := { name := "stuffBack", fn := fun _ => fun
  | [d1, d2] => { results := [.lit (.bool true)], args := [d1, d2] }
  | _ => none }
def stuffBackRow : OpenClaim := { program := "ytfgkbogccaiceaa", sum := "a35613c46ea1e84ae9e149d70aa754473eec2df587fc2c3e7f94c62c55f8c5f3", func := "ferryhythe/ferryhythelaw1.StuffBack", spec := "stuffBack", apart := false }
def StuffBackSaid : Prop := stuffBackRow.holds Try.pinned (OpenSpec.ofChange stuffBackSpec)

/-- ITS FALSE NEIGHBOUR: 'it returns false'. Refute it at one input. -/
def stuffBackWrong : ChangeSpec := { name := "stuffBack", fn := fun _ => fun
  | [d1, d2] => { results := [.lit (.bool false)], args := [d1, d2] }
  | _ => none }
def StuffBackWrongFalsely : Prop := stuffBackRow.holds Try.pinned (OpenSpec.ofChange stuffBackWrong)

/-- 'ferryhythelaw1.StuffFlag': WHATEVER THE INPUT: true; the input reads as it did. -/
def stuffFlagSpec : ChangeSpec := { name := "stuffFlag", fn := fun _ => fun
  | [d] => { results := [.lit (.bool true)], args := [d] }
  | _ => none }
def stuffFlagRow : OpenClaim := { program := "ytfgkbogccaiceaa", sum := "a35613c46ea1e84ae9e149d70aa754473eec2df587fc2c3e7f94c62c55f8c5f3", func := "ferryhythe/ferryhythelaw1.StuffFlag", spec := "stuffFlag", apart := false }
def StuffFlagSaid : Prop := stuffFlagRow.holds Try.pinned (OpenSpec.ofChange stuffFlagSpec)

/-- ITS FALSE NEIGHBOUR: 'it returns false'. Refute it at one input. -/
def stuffFlagWrong : ChangeSpec := { name := "stuffFlag", fn := fun _ => fun
  | [d] => { results := [.lit (.bool false)], args := [d] }
  | _ => none }
def StuffFlagWrongFalsely : Prop := stuffFlagRow.holds Try.pinned (OpenSpec.ofChange stuffFlagWrong)

/-- 'ferryhythelaw1.StuffFrames': WHATEVER THE INPUT: true; the input reads as it did. -/
def stuffFramesSpec : ChangeSpec := { name := "stuffFrames", fn := fun _ => fun
  | [d] => { results := [.lit (.bool true)], args := [d] }
  | _ => none }
def stuffFramesRow : OpenClaim := { program := "ytfgkbogccaiceaa", sum := "a35613c46ea1e84ae9e149d70aa754473eec2df587fc2c3e7f94c62c55f8c5f3", func := "ferryhythe/ferryhythelaw1.StuffFrames", spec := "stuffFrames", apart := false }
def StuffFramesSaid : Prop := stuffFramesRow.holds Try.pinned (OpenSpec.ofChange stuffFramesSpec)

/-- ITS FALSE NEIGHBOUR: 'it returns false'. Refute it at one input. -/
def stuffFramesWrong : ChangeSpec := { name := "stuffFrames", fn := fun _ => fun
  | [d] => { results := [.lit (.bool false)], args := [d] }
  | _ => none }
def StuffFramesWrongFalsely : Prop := stuffFramesRow.holds Try.pinned (OpenSpec.ofChange stuffFramesWrong)

/- THE SECOND FORM. 'bulk': how many values and letters a reading holds, each counted each time it is reached (what is shared counts as often as it is met; a slice's spare places count too). A statement '..UptoSaid' is the law's where the arguments, and the package variables that the reading takes, are together of bulk at most 1048576: NARROWER than '..Said'. Prove '..Said' where nothing that the law and all that it calls make is longer than what came in: it says more and counts as full. Else prove '..UptoSaid'. A law counts once. -/
mutual
def uptoBulk {H : Type} : DataW H → Nat
  | .lit (.string bytes) => bytes.length + 1
  | .lit _ => 1
  | .nil => 1
  | .ptr d => uptoBulk d + 1
  | .slice elems spare => uptoBulkAll elems + uptoBulkAll spare + 1
  | .agg parts => uptoBulkAll parts + 1
  | .iface _ d => uptoBulk d + 1
  | .map entries => uptoBulkEntries entries + 1
  | .held _ => 1
def uptoBulkAll {H : Type} : List (DataW H) → Nat
  | [] => 0
  | d :: r => uptoBulk d + uptoBulkAll r
def uptoBulkEntries {H : Type} : List (Lit × DataW H) → Nat
  | [] => 0
  | x :: r => uptoBulkEntry x + uptoBulkEntries r
def uptoBulkEntry {H : Type} : Lit × DataW H → Nat
  | (.string bytes, d) => bytes.length + uptoBulk d + 1
  | (_, d) => uptoBulk d + 1
 end
def uptoSmall : (H : Type) → List (DataW H) → Bool := fun _ ds => decide (uptoBulkAll ds ≤ 1048576)
def OpenSpec.upto (s : _root_.Go.ChangeSpec) : _root_.Go.OpenSpec := { _root_.Go.OpenSpec.ofChange s with cond := some uptoSmall }

/-- 'ferryhythelaw1.StuffBack', WHERE WHAT IT READS IS OF BULK AT MOST 1048576: true; the input reads as it did. -/
def stuffBackUptoRow : OpenClaim := { program := "ytfgkbogccaiceaa", sum := "a35613c46ea1e84ae9e149d70aa754473eec2df587fc2c3e7f94c62c55f8c5f3", func := "ferryhythe/ferryhythelaw1.StuffBack", spec := "stuffBack", apart := false, narrowed := true }
def StuffBackUptoSaid : Prop := stuffBackUptoRow.holds Try.pinned (OpenSpec.upto stuffBackSpec)

/-- 'ferryhythelaw1.StuffFlag', WHERE WHAT IT READS IS OF BULK AT MOST 1048576: true; the input reads as it did. -/
def stuffFlagUptoRow : OpenClaim := { program := "ytfgkbogccaiceaa", sum := "a35613c46ea1e84ae9e149d70aa754473eec2df587fc2c3e7f94c62c55f8c5f3", func := "ferryhythe/ferryhythelaw1.StuffFlag", spec := "stuffFlag", apart := false, narrowed := true }
def StuffFlagUptoSaid : Prop := stuffFlagUptoRow.holds Try.pinned (OpenSpec.upto stuffFlagSpec)

/-- 'ferryhythelaw1.StuffFrames', WHERE WHAT IT READS IS OF BULK AT MOST 1048576: true; the input reads as it did. -/
def stuffFramesUptoRow : OpenClaim := { program := "ytfgkbogccaiceaa", sum := "a35613c46ea1e84ae9e149d70aa754473eec2df587fc2c3e7f94c62c55f8c5f3", func := "ferryhythe/ferryhythelaw1.StuffFrames", spec := "stuffFrames", apart := false, narrowed := true }
def StuffFramesUptoSaid : Prop := stuffFramesUptoRow.holds Try.pinned (OpenSpec.upto stuffFramesSpec)

end Rows
end Go.Proofs.Ytfgkbogccaiceaa
