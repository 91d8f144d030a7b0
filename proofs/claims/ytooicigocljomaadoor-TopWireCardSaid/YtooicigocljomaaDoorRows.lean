/-
  NARROWER THAN 'FOR EVERY INPUT', by the rows' own cells (each row's printed sentence says how): LineSays: laid · LineBack: laid · LineRuns: laid · LineTurned: laid · TopWire: laid.
  DERIVED. THE GIVEN ROWS OF THIS SEAT. 5 by the template 'for every input the law returns true; each argument reads behind the call as it read before'; 0 by the template 'total and deterministic' (their statements: YtooicigocljomaaDoorTotals.lean).
  GIVEN WITH THE SEED: the statements are not yours to turn. If you find one false, say at which input.
  Laid BY PROGRAM, IN A SANDBOX (cutbox-rows.mjs): the forced cells as the released guide's own fill.sh prints them over the translation 4e664b02b2f9d7cc… (all of the seat's roots in one cut). By AI agents, Wed Nov 11 2026. No macro, syntax, notation, axiom, sorry.
-/
import Derived.Test.YtooicigocljomaaDoorChecked
import GoSem.Claim
import GoSem.ClaimJoined
import GoSem.ClaimMapViews
import Derived.JoinedTies
import Derived.KernelRfl
namespace Go.Proofs.YtooicigocljomaaDoor
/- THE CELL 'sum', in the pinned program and in every row, IS THE sha256 OF THE DUMP (.gsa) THAT YtooicigocljomaaDoorProg.lean LOADS. Nothing in Lean hashes anything: it is a label: what it is worth is what the hold of that sum in a sandbox is worth. -/
noncomputable def Tryd.pinned : Pinned := { name := "ytooicigocljomaadoor", sum := "4e664b02b2f9d7cc8a8c85639b66c4a55a97e8ded23cb534af6297588f5fe285", checked := Tryd.checked }
namespace Rows
def none {H : Type} : Left H := { results := [], args := [] }

/- WHAT THE LISTED PACKAGE-LEVEL VARIABLES READ AS WHEN THE CALL BEGINS. Each datum BY PROGRAM (the guide's laid-datum.mjs) off the statement by which the dump's own 'gosem.cut.vars' lays the variable. In a bare row this is a premise. The card (YtooicigocljomaaDoorCards.lean) ties it to the program's text. -/
def laid_errors_errorType {H : Type} : DataW H := .iface "internal/reflectlite.rtype" (.agg [.ptr (.lit (.string [101, 114, 114, 111, 114]))])
def laid_ferryhythe_line_codes {H : Type} : DataW H := .agg [.agg [.lit (.int .i64 1), .lit (.int .i64 1), .lit (.int .i64 1), .lit (.int .i64 1), .lit (.int .i64 0)], .agg [.lit (.int .i64 0), .lit (.int .i64 1), .lit (.int .i64 0), .lit (.int .i64 0), .lit (.int .i64 1)], .agg [.lit (.int .i64 1), .lit (.int .i64 0), .lit (.int .i64 1), .lit (.int .i64 0), .lit (.int .i64 0)], .agg [.lit (.int .i64 1), .lit (.int .i64 0), .lit (.int .i64 1), .lit (.int .i64 0), .lit (.int .i64 1)], .agg [.lit (.int .i64 0), .lit (.int .i64 1), .lit (.int .i64 0), .lit (.int .i64 1), .lit (.int .i64 0)], .agg [.lit (.int .i64 0), .lit (.int .i64 1), .lit (.int .i64 0), .lit (.int .i64 1), .lit (.int .i64 1)], .agg [.lit (.int .i64 0), .lit (.int .i64 1), .lit (.int .i64 1), .lit (.int .i64 1), .lit (.int .i64 0)], .agg [.lit (.int .i64 0), .lit (.int .i64 1), .lit (.int .i64 1), .lit (.int .i64 1), .lit (.int .i64 1)], .agg [.lit (.int .i64 1), .lit (.int .i64 0), .lit (.int .i64 0), .lit (.int .i64 1), .lit (.int .i64 0)], .agg [.lit (.int .i64 1), .lit (.int .i64 0), .lit (.int .i64 0), .lit (.int .i64 1), .lit (.int .i64 1)], .agg [.lit (.int .i64 1), .lit (.int .i64 0), .lit (.int .i64 1), .lit (.int .i64 1), .lit (.int .i64 0)], .agg [.lit (.int .i64 1), .lit (.int .i64 0), .lit (.int .i64 1), .lit (.int .i64 1), .lit (.int .i64 1)], .agg [.lit (.int .i64 1), .lit (.int .i64 1), .lit (.int .i64 0), .lit (.int .i64 1), .lit (.int .i64 0)], .agg [.lit (.int .i64 1), .lit (.int .i64 1), .lit (.int .i64 0), .lit (.int .i64 1), .lit (.int .i64 1)], .agg [.lit (.int .i64 1), .lit (.int .i64 1), .lit (.int .i64 1), .lit (.int .i64 0), .lit (.int .i64 0)], .agg [.lit (.int .i64 1), .lit (.int .i64 1), .lit (.int .i64 1), .lit (.int .i64 0), .lit (.int .i64 1)]]

/-- 'ferryhythelaw1.LineSays': WHATEVER THE INPUT: true; the input reads as it did. -/
def lineSaysSpec : ChangeSpec := { name := "lineSays", fn := fun _ => fun
  | [d1, d2] => { results := [.lit (.bool true)], args := [d1, d2] }
  | _ => none }
def lineSaysRow : OpenClaim := { program := "ytooicigocljomaadoor", sum := "4e664b02b2f9d7cc8a8c85639b66c4a55a97e8ded23cb534af6297588f5fe285", func := "ferryhythe/ferryhythelaw1.LineSays", spec := "lineSays", inPlace := ["internal/reflectlite.ValueOf", "(internal/reflectlite.Value).Type", "(internal/reflectlite.Value).IsNil", "internal/reflectlite.TypeOf", "(internal/reflectlite.Value).Elem", "(internal/reflectlite.Value).Set"], unfollowed := true, recurses := true, named := ["ferryhythe/line.codes", "errors.errorType"], apart := false, laid := [("errors.errorType", laid_errors_errorType), ("ferryhythe/line.codes", laid_ferryhythe_line_codes)] }
def LineSaysSaid : Prop := lineSaysRow.holds Tryd.pinned (OpenSpec.ofChange lineSaysSpec)

/-- ITS FALSE NEIGHBOUR: 'it returns false'. Refute it at one input. -/
def lineSaysWrong : ChangeSpec := { name := "lineSays", fn := fun _ => fun
  | [d1, d2] => { results := [.lit (.bool false)], args := [d1, d2] }
  | _ => none }
def LineSaysWrongFalsely : Prop := lineSaysRow.holds Tryd.pinned (OpenSpec.ofChange lineSaysWrong)

/-- 'ferryhythelaw1.LineBack': WHATEVER THE INPUT: true; the input reads as it did. -/
def lineBackSpec : ChangeSpec := { name := "lineBack", fn := fun _ => fun
  | [d1, d2] => { results := [.lit (.bool true)], args := [d1, d2] }
  | _ => none }
def lineBackRow : OpenClaim := { program := "ytooicigocljomaadoor", sum := "4e664b02b2f9d7cc8a8c85639b66c4a55a97e8ded23cb534af6297588f5fe285", func := "ferryhythe/ferryhythelaw1.LineBack", spec := "lineBack", unfollowed := true, recurses := true, named := ["ferryhythe/line.codes"], apart := false, laid := [("ferryhythe/line.codes", laid_ferryhythe_line_codes)] }
def LineBackSaid : Prop := lineBackRow.holds Tryd.pinned (OpenSpec.ofChange lineBackSpec)

/-- ITS FALSE NEIGHBOUR: 'it returns false'. Refute it at one input. -/
def lineBackWrong : ChangeSpec := { name := "lineBack", fn := fun _ => fun
  | [d1, d2] => { results := [.lit (.bool false)], args := [d1, d2] }
  | _ => none }
def LineBackWrongFalsely : Prop := lineBackRow.holds Tryd.pinned (OpenSpec.ofChange lineBackWrong)

/-- 'ferryhythelaw1.LineRuns': WHATEVER THE INPUT: true; the input reads as it did. -/
def lineRunsSpec : ChangeSpec := { name := "lineRuns", fn := fun _ => fun
  | [d] => { results := [.lit (.bool true)], args := [d] }
  | _ => none }
def lineRunsRow : OpenClaim := { program := "ytooicigocljomaadoor", sum := "4e664b02b2f9d7cc8a8c85639b66c4a55a97e8ded23cb534af6297588f5fe285", func := "ferryhythe/ferryhythelaw1.LineRuns", spec := "lineRuns", named := ["ferryhythe/line.codes"], apart := false, laid := [("ferryhythe/line.codes", laid_ferryhythe_line_codes)] }
def LineRunsSaid : Prop := lineRunsRow.holds Tryd.pinned (OpenSpec.ofChange lineRunsSpec)

/-- ITS FALSE NEIGHBOUR: 'it returns false'. Refute it at one input. -/
def lineRunsWrong : ChangeSpec := { name := "lineRuns", fn := fun _ => fun
  | [d] => { results := [.lit (.bool false)], args := [d] }
  | _ => none }
def LineRunsWrongFalsely : Prop := lineRunsRow.holds Tryd.pinned (OpenSpec.ofChange lineRunsWrong)

/-- 'ferryhythelaw1.LineTurned': WHATEVER THE INPUT: true; the input reads as it did. -/
def lineTurnedSpec : ChangeSpec := { name := "lineTurned", fn := fun _ => fun
  | [d] => { results := [.lit (.bool true)], args := [d] }
  | _ => none }
def lineTurnedRow : OpenClaim := { program := "ytooicigocljomaadoor", sum := "4e664b02b2f9d7cc8a8c85639b66c4a55a97e8ded23cb534af6297588f5fe285", func := "ferryhythe/ferryhythelaw1.LineTurned", spec := "lineTurned", named := ["ferryhythe/line.codes"], apart := false, laid := [("ferryhythe/line.codes", laid_ferryhythe_line_codes)] }
def LineTurnedSaid : Prop := lineTurnedRow.holds Tryd.pinned (OpenSpec.ofChange lineTurnedSpec)

/-- ITS FALSE NEIGHBOUR: 'it returns false'. Refute it at one input. -/
def lineTurnedWrong : ChangeSpec := { name := "lineTurned", fn := fun _ => fun
  | [d] => { results := [.lit (.bool false)], args := [d] }
  | _ => none }
def LineTurnedWrongFalsely : Prop := lineTurnedRow.holds Tryd.pinned (OpenSpec.ofChange lineTurnedWrong)

/-- 'ferryhythetop.TopWire': WHATEVER THE INPUT: true; the input reads as it did. -/
def topWireSpec : ChangeSpec := { name := "topWire", fn := fun _ => fun
  | [d] => { results := [.lit (.bool true)], args := [d] }
  | _ => none }
def topWireRow : OpenClaim := { program := "ytooicigocljomaadoor", sum := "4e664b02b2f9d7cc8a8c85639b66c4a55a97e8ded23cb534af6297588f5fe285", func := "ferryhythe/ferryhythetop.TopWire", spec := "topWire", unfollowed := true, recurses := true, named := ["ferryhythe/line.codes"], apart := false, laid := [("ferryhythe/line.codes", laid_ferryhythe_line_codes)] }
def TopWireSaid : Prop := topWireRow.holds Tryd.pinned (OpenSpec.ofChange topWireSpec)

/-- ITS FALSE NEIGHBOUR: 'it returns false'. Refute it at one input. -/
def topWireWrong : ChangeSpec := { name := "topWire", fn := fun _ => fun
  | [d] => { results := [.lit (.bool false)], args := [d] }
  | _ => none }
def TopWireWrongFalsely : Prop := topWireRow.holds Tryd.pinned (OpenSpec.ofChange topWireWrong)

/- THE SECOND FORM. 'bulk': how many values and letters a reading holds, each counted each time it is reached (what is shared counts as often as it is met; a slice's spare places count too). A statement '..UptoSaid' is the law's where the arguments, and the package variables that the reading takes, are together of bulk at most 1048576: NARROWER than '..Said'. Prove '..Said' where nothing that the law and all that it calls make is longer than what came in: it says more and counts as full. Else prove '..UptoSaid'. A law counts once. -/
mutual
def uptoBulk {H : Type} : DataW H → Nat
  | .lit (.string bytes) => bytes.length + 1
  | .lit _ => 1
  | .nil => 1
  | .ptr d => uptoBulk d + 1
  | .slice elems spare => uptoBulkAll elems + uptoBulkAll spare + 1
  | .agg parts => uptoBulkAll parts + 1
  | .iface _ d => uptoBulk d + 1
  | .map entries => uptoBulkEntries entries + 1
  | .held _ => 1
def uptoBulkAll {H : Type} : List (DataW H) → Nat
  | [] => 0
  | d :: r => uptoBulk d + uptoBulkAll r
def uptoBulkEntries {H : Type} : List (Lit × DataW H) → Nat
  | [] => 0
  | x :: r => uptoBulkEntry x + uptoBulkEntries r
def uptoBulkEntry {H : Type} : Lit × DataW H → Nat
  | (.string bytes, d) => bytes.length + uptoBulk d + 1
  | (_, d) => uptoBulk d + 1
 end
def uptoSmall : (H : Type) → List (DataW H) → Bool := fun _ ds => decide (uptoBulkAll ds ≤ 1048576)
def OpenSpec.upto (s : _root_.Go.ChangeSpec) : _root_.Go.OpenSpec := { _root_.Go.OpenSpec.ofChange s with cond := some uptoSmall }

/-- 'ferryhythelaw1.LineSays', WHERE WHAT IT READS IS OF BULK AT MOST 1048576: true; the input reads as it did. -/
def lineSaysUptoRow : OpenClaim := { program := "ytooicigocljomaadoor", sum := "4e664b02b2f9d7cc8a8c85639b66c4a55a97e8ded23cb534af6297588f5fe285", func := "ferryhythe/ferryhythelaw1.LineSays", spec := "lineSays", inPlace := ["internal/reflectlite.ValueOf", "(internal/reflectlite.Value).Type", "(internal/reflectlite.Value).IsNil", "internal/reflectlite.TypeOf", "(internal/reflectlite.Value).Elem", "(internal/reflectlite.Value).Set"], unfollowed := true, recurses := true, named := ["ferryhythe/line.codes", "errors.errorType"], apart := false, laid := [("errors.errorType", laid_errors_errorType), ("ferryhythe/line.codes", laid_ferryhythe_line_codes)], narrowed := true }
def LineSaysUptoSaid : Prop := lineSaysUptoRow.holds Tryd.pinned (OpenSpec.upto lineSaysSpec)

/-- 'ferryhythelaw1.LineBack', WHERE WHAT IT READS IS OF BULK AT MOST 1048576: true; the input reads as it did. -/
def lineBackUptoRow : OpenClaim := { program := "ytooicigocljomaadoor", sum := "4e664b02b2f9d7cc8a8c85639b66c4a55a97e8ded23cb534af6297588f5fe285", func := "ferryhythe/ferryhythelaw1.LineBack", spec := "lineBack", unfollowed := true, recurses := true, named := ["ferryhythe/line.codes"], apart := false, laid := [("ferryhythe/line.codes", laid_ferryhythe_line_codes)], narrowed := true }
def LineBackUptoSaid : Prop := lineBackUptoRow.holds Tryd.pinned (OpenSpec.upto lineBackSpec)

/-- 'ferryhythelaw1.LineRuns', WHERE WHAT IT READS IS OF BULK AT MOST 1048576: true; the input reads as it did. -/
def lineRunsUptoRow : OpenClaim := { program := "ytooicigocljomaadoor", sum := "4e664b02b2f9d7cc8a8c85639b66c4a55a97e8ded23cb534af6297588f5fe285", func := "ferryhythe/ferryhythelaw1.LineRuns", spec := "lineRuns", named := ["ferryhythe/line.codes"], apart := false, laid := [("ferryhythe/line.codes", laid_ferryhythe_line_codes)], narrowed := true }
def LineRunsUptoSaid : Prop := lineRunsUptoRow.holds Tryd.pinned (OpenSpec.upto lineRunsSpec)

/-- 'ferryhythelaw1.LineTurned', WHERE WHAT IT READS IS OF BULK AT MOST 1048576: true; the input reads as it did. -/
def lineTurnedUptoRow : OpenClaim := { program := "ytooicigocljomaadoor", sum := "4e664b02b2f9d7cc8a8c85639b66c4a55a97e8ded23cb534af6297588f5fe285", func := "ferryhythe/ferryhythelaw1.LineTurned", spec := "lineTurned", named := ["ferryhythe/line.codes"], apart := false, laid := [("ferryhythe/line.codes", laid_ferryhythe_line_codes)], narrowed := true }
def LineTurnedUptoSaid : Prop := lineTurnedUptoRow.holds Tryd.pinned (OpenSpec.upto lineTurnedSpec)

/-- 'ferryhythetop.TopWire', WHERE WHAT IT READS IS OF BULK AT MOST 1048576: true; the input reads as it did. -/
def topWireUptoRow : OpenClaim := { program := "ytooicigocljomaadoor", sum := "4e664b02b2f9d7cc8a8c85639b66c4a55a97e8ded23cb534af6297588f5fe285", func := "ferryhythe/ferryhythetop.TopWire", spec := "topWire", unfollowed := true, recurses := true, named := ["ferryhythe/line.codes"], apart := false, laid := [("ferryhythe/line.codes", laid_ferryhythe_line_codes)], narrowed := true }
def TopWireUptoSaid : Prop := topWireUptoRow.holds Tryd.pinned (OpenSpec.upto topWireSpec)

end Rows
end Go.Proofs.YtooicigocljomaaDoor
