/-
  No cell of these rows narrows 'for every input' (looked for: loops, veiled, ifaces, maps, wideKeys, modest, calm, conditions, laid).
  DERIVED. THE GIVEN ROWS OF THIS SEAT. 4 by the template 'for every input the law returns true; each argument reads behind the call as it read before'; 0 by the template 'total and deterministic' (their statements: YtedhippamfioeaaTotals.lean).
  GIVEN WITH THE SEED: the statements are not yours to turn. If you find one false, say at which input.
  Laid BY PROGRAM, IN A SANDBOX (cutbox-rows.mjs): the forced cells as the released guide's own fill.sh prints them over the translation c09654e96c589e72… (all of the seat's roots in one cut). By AI agents, Wed Nov 11 2026. No macro, syntax, notation, axiom, sorry.
-/
import Derived.Test.YtedhippamfioeaaChecked
import GoSem.Claim
import GoSem.ClaimJoined
import GoSem.ClaimMapViews
import Derived.JoinedTies
import Derived.KernelRfl
namespace Go.Proofs.Ytedhippamfioeaa
/- THE CELL 'sum', in the pinned program and in every row, IS THE sha256 OF THE DUMP (.gsa) THAT YtedhippamfioeaaProg.lean LOADS. Nothing in Lean hashes anything: it is a label: what it is worth is what the hold of that sum in a sandbox is worth. -/
noncomputable def Try.pinned : Pinned := { name := "ytedhippamfioeaa", sum := "c09654e96c589e72e584db239538f75fe705fefe62b17093a643d078b728929f", checked := Try.checked }
namespace Rows
def none {H : Type} : Left H := { results := [], args := [] }

/-- 'ferryhythelaw3.RpfAll': WHATEVER THE INPUT: true; the input reads as it did. -/
def rpfAllSpec : ChangeSpec := { name := "rpfAll", fn := fun _ => fun
  | [d1, d2, d3] => { results := [.lit (.bool true)], args := [d1, d2, d3] }
  | _ => none }
def rpfAllRow : OpenClaim := { program := "ytedhippamfioeaa", sum := "c09654e96c589e72e584db239538f75fe705fefe62b17093a643d078b728929f", func := "ferryhythe/ferryhythelaw3.RpfAll", spec := "rpfAll", unfollowed := true, recurses := true, apart := false }
def RpfAllSaid : Prop := rpfAllRow.holds Try.pinned (OpenSpec.ofChange rpfAllSpec)

/-- ITS FALSE NEIGHBOUR: 'it returns false'. Refute it at one input. -/
def rpfAllWrong : ChangeSpec := { name := "rpfAll", fn := fun _ => fun
  | [d1, d2, d3] => { results := [.lit (.bool false)], args := [d1, d2, d3] }
  | _ => none }
def RpfAllWrongFalsely : Prop := rpfAllRow.holds Try.pinned (OpenSpec.ofChange rpfAllWrong)

/-- 'ferryhythelaw3.RpfTree': WHATEVER THE INPUT: true; the input reads as it did. -/
def rpfTreeSpec : ChangeSpec := { name := "rpfTree", fn := fun _ => fun
  | [d1, d2, d3] => { results := [.lit (.bool true)], args := [d1, d2, d3] }
  | _ => none }
def rpfTreeRow : OpenClaim := { program := "ytedhippamfioeaa", sum := "c09654e96c589e72e584db239538f75fe705fefe62b17093a643d078b728929f", func := "ferryhythe/ferryhythelaw3.RpfTree", spec := "rpfTree", unfollowed := true, recurses := true, apart := false }
def RpfTreeSaid : Prop := rpfTreeRow.holds Try.pinned (OpenSpec.ofChange rpfTreeSpec)

/-- ITS FALSE NEIGHBOUR: 'it returns false'. Refute it at one input. -/
def rpfTreeWrong : ChangeSpec := { name := "rpfTree", fn := fun _ => fun
  | [d1, d2, d3] => { results := [.lit (.bool false)], args := [d1, d2, d3] }
  | _ => none }
def RpfTreeWrongFalsely : Prop := rpfTreeRow.holds Try.pinned (OpenSpec.ofChange rpfTreeWrong)

/-- 'ferryhythelaw3.RpfKids': WHATEVER THE INPUT: true; the input reads as it did. -/
def rpfKidsSpec : ChangeSpec := { name := "rpfKids", fn := fun _ => fun
  | [d1, d2, d3] => { results := [.lit (.bool true)], args := [d1, d2, d3] }
  | _ => none }
def rpfKidsRow : OpenClaim := { program := "ytedhippamfioeaa", sum := "c09654e96c589e72e584db239538f75fe705fefe62b17093a643d078b728929f", func := "ferryhythe/ferryhythelaw3.RpfKids", spec := "rpfKids", unfollowed := true, recurses := true, apart := false }
def RpfKidsSaid : Prop := rpfKidsRow.holds Try.pinned (OpenSpec.ofChange rpfKidsSpec)

/-- ITS FALSE NEIGHBOUR: 'it returns false'. Refute it at one input. -/
def rpfKidsWrong : ChangeSpec := { name := "rpfKids", fn := fun _ => fun
  | [d1, d2, d3] => { results := [.lit (.bool false)], args := [d1, d2, d3] }
  | _ => none }
def RpfKidsWrongFalsely : Prop := rpfKidsRow.holds Try.pinned (OpenSpec.ofChange rpfKidsWrong)

/-- 'ferryhythetop.TopWays': WHATEVER THE INPUT: true; the input reads as it did. -/
def topWaysSpec : ChangeSpec := { name := "topWays", fn := fun _ => fun
  | [d1, d2, d3] => { results := [.lit (.bool true)], args := [d1, d2, d3] }
  | _ => none }
def topWaysRow : OpenClaim := { program := "ytedhippamfioeaa", sum := "c09654e96c589e72e584db239538f75fe705fefe62b17093a643d078b728929f", func := "ferryhythe/ferryhythetop.TopWays", spec := "topWays", unfollowed := true, recurses := true, apart := false }
def TopWaysSaid : Prop := topWaysRow.holds Try.pinned (OpenSpec.ofChange topWaysSpec)

/-- ITS FALSE NEIGHBOUR: 'it returns false'. Refute it at one input. -/
def topWaysWrong : ChangeSpec := { name := "topWays", fn := fun _ => fun
  | [d1, d2, d3] => { results := [.lit (.bool false)], args := [d1, d2, d3] }
  | _ => none }
def TopWaysWrongFalsely : Prop := topWaysRow.holds Try.pinned (OpenSpec.ofChange topWaysWrong)

/- THE SECOND FORM. 'bulk': how many values and letters a reading holds, each counted each time it is reached (what is shared counts as often as it is met; a slice's spare places count too). A statement '..UptoSaid' is the law's where the arguments, and the package variables that the reading takes, are together of bulk at most 1048576: NARROWER than '..Said'. Prove '..Said' where nothing that the law and all that it calls make is longer than what came in: it says more and counts as full. Else prove '..UptoSaid'. A law counts once. -/
mutual
def uptoBulk {H : Type} : DataW H → Nat
  | .lit (.string bytes) => bytes.length + 1
  | .lit _ => 1
  | .nil => 1
  | .ptr d => uptoBulk d + 1
  | .slice elems spare => uptoBulkAll elems + uptoBulkAll spare + 1
  | .agg parts => uptoBulkAll parts + 1
  | .iface _ d => uptoBulk d + 1
  | .map entries => uptoBulkEntries entries + 1
  | .held _ => 1
def uptoBulkAll {H : Type} : List (DataW H) → Nat
  | [] => 0
  | d :: r => uptoBulk d + uptoBulkAll r
def uptoBulkEntries {H : Type} : List (Lit × DataW H) → Nat
  | [] => 0
  | x :: r => uptoBulkEntry x + uptoBulkEntries r
def uptoBulkEntry {H : Type} : Lit × DataW H → Nat
  | (.string bytes, d) => bytes.length + uptoBulk d + 1
  | (_, d) => uptoBulk d + 1
 end
def uptoSmall : (H : Type) → List (DataW H) → Bool := fun _ ds => decide (uptoBulkAll ds ≤ 1048576)
def OpenSpec.upto (s : _root_.Go.ChangeSpec) : _root_.Go.OpenSpec := { _root_.Go.OpenSpec.ofChange s with cond := some uptoSmall }

/-- 'ferryhythelaw3.RpfAll', WHERE WHAT IT READS IS OF BULK AT MOST 1048576: true; the input reads as it did. -/
def rpfAllUptoRow : OpenClaim := { program := "ytedhippamfioeaa", sum := "c09654e96c589e72e584db239538f75fe705fefe62b17093a643d078b728929f", func := "ferryhythe/ferryhythelaw3.RpfAll", spec := "rpfAll", unfollowed := true, recurses := true, apart := false, narrowed := true }
def RpfAllUptoSaid : Prop := rpfAllUptoRow.holds Try.pinned (OpenSpec.upto rpfAllSpec)

/-- 'ferryhythelaw3.RpfTree', WHERE WHAT IT READS IS OF BULK AT MOST 1048576: true; the input reads as it did. -/
def rpfTreeUptoRow : OpenClaim := { program := "ytedhippamfioeaa", sum := "c09654e96c589e72e584db239538f75fe705fefe62b17093a643d078b728929f", func := "ferryhythe/ferryhythelaw3.RpfTree", spec := "rpfTree", unfollowed := true, recurses := true, apart := false, narrowed := true }
def RpfTreeUptoSaid : Prop := rpfTreeUptoRow.holds Try.pinned (OpenSpec.upto rpfTreeSpec)

/-- 'ferryhythelaw3.RpfKids', WHERE WHAT IT READS IS OF BULK AT MOST 1048576: true; the input reads as it did. -/
def rpfKidsUptoRow : OpenClaim := { program := "ytedhippamfioeaa", sum := "c09654e96c589e72e584db239538f75fe705fefe62b17093a643d078b728929f", func := "ferryhythe/ferryhythelaw3.RpfKids", spec := "rpfKids", unfollowed := true, recurses := true, apart := false, narrowed := true }
def RpfKidsUptoSaid : Prop := rpfKidsUptoRow.holds Try.pinned (OpenSpec.upto rpfKidsSpec)

/-- 'ferryhythetop.TopWays', WHERE WHAT IT READS IS OF BULK AT MOST 1048576: true; the input reads as it did. -/
def topWaysUptoRow : OpenClaim := { program := "ytedhippamfioeaa", sum := "c09654e96c589e72e584db239538f75fe705fefe62b17093a643d078b728929f", func := "ferryhythe/ferryhythetop.TopWays", spec := "topWays", unfollowed := true, recurses := true, apart := false, narrowed := true }
def TopWaysUptoSaid : Prop := topWaysUptoRow.holds Try.pinned (OpenSpec.upto topWaysSpec)

end Rows
end Go.Proofs.Ytedhippamfioeaa
