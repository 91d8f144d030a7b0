/-
  No cell of these rows narrows 'for every input' (looked for: loops, veiled, ifaces, maps, wideKeys, modest, calm, conditions, laid).
  DERIVED. THE GIVEN ROWS OF THIS SEAT. 2 by the template 'for every input the law returns true; each argument reads behind the call as it read before'; 0 by the template 'total and deterministic' (their statements: YtjphjmgjhnpnjaaTotals.lean).
  GIVEN WITH THE SEED: the statements are not yours to turn. If you find one false, say at which input.
  Laid BY PROGRAM, IN A SANDBOX (cutbox-rows.mjs): the forced cells as the released guide's own fill.sh prints them over the translation a8b7404973d55b97… (all of the seat's roots in one cut). By AI agents, Wed Nov 11 2026. No macro, syntax, notation, axiom, sorry.
-/
import Derived.Test.YtjphjmgjhnpnjaaChecked
import GoSem.Claim
import GoSem.ClaimJoined
import GoSem.ClaimMapViews
import Derived.JoinedTies
import Derived.KernelRfl
namespace Go.Proofs.Ytjphjmgjhnpnjaa
/- THE CELL 'sum', in the pinned program and in every row, IS THE sha256 OF THE DUMP (.gsa) THAT YtjphjmgjhnpnjaaProg.lean LOADS. Nothing in Lean hashes anything: it is a label: what it is worth is what the hold of that sum in a sandbox is worth. -/
noncomputable def Try.pinned : Pinned := { name := "ytjphjmgjhnpnjaa", sum := "a8b7404973d55b97b1c5249faa50b0c27f790a2e27db24c6efaf24addeae5b8d", checked := Try.checked }
namespace Rows
def none {H : Type} : Left H := { results := [], args := [] }

/-- 'ferryhythelaw2.AbpExact': WHATEVER THE INPUT: true; the input reads as it did. -/
def abpExactSpec : ChangeSpec := { name := "abpExact", fn := fun _ => fun
  | [d1, d2] => { results := [.lit (.bool true)], args := [d1, d2] }
  | _ => none }
def abpExactRow : OpenClaim := { program := "ytjphjmgjhnpnjaa", sum := "a8b7404973d55b97b1c5249faa50b0c27f790a2e27db24c6efaf24addeae5b8d", func := "ferryhythe/ferryhythelaw2.AbpExact", spec := "abpExact", unfollowed := true, recurses := true, apart := false }
def AbpExactSaid : Prop := abpExactRow.holds Try.pinned (OpenSpec.ofChange abpExactSpec)

/-- ITS FALSE NEIGHBOUR: 'it returns false'. Refute it at one input. -/
def abpExactWrong : ChangeSpec := { name := "abpExact", fn := fun _ => fun
  | [d1, d2] => { results := [.lit (.bool false)], args := [d1, d2] }
  | _ => none }
def AbpExactWrongFalsely : Prop := abpExactRow.holds Try.pinned (OpenSpec.ofChange abpExactWrong)

/-- 'ferryhythelaw2.AbpEnds': WHATEVER THE INPUT: true; the input reads as it did. -/
def abpEndsSpec : ChangeSpec := { name := "abpEnds", fn := fun _ => fun
  | [d1, d2] => { results := [.lit (.bool true)], args := [d1, d2] }
  | _ => none }
def abpEndsRow : OpenClaim := { program := "ytjphjmgjhnpnjaa", sum := "a8b7404973d55b97b1c5249faa50b0c27f790a2e27db24c6efaf24addeae5b8d", func := "ferryhythe/ferryhythelaw2.AbpEnds", spec := "abpEnds", unfollowed := true, recurses := true, apart := false }
def AbpEndsSaid : Prop := abpEndsRow.holds Try.pinned (OpenSpec.ofChange abpEndsSpec)

/-- ITS FALSE NEIGHBOUR: 'it returns false'. Refute it at one input. -/
def abpEndsWrong : ChangeSpec := { name := "abpEnds", fn := fun _ => fun
  | [d1, d2] => { results := [.lit (.bool false)], args := [d1, d2] }
  | _ => none }
def AbpEndsWrongFalsely : Prop := abpEndsRow.holds Try.pinned (OpenSpec.ofChange abpEndsWrong)

/- THE SECOND FORM. 'bulk': how many values and letters a reading holds, each counted each time it is reached (what is shared counts as often as it is met; a slice's spare places count too). A statement '..UptoSaid' is the law's where the arguments, and the package variables that the reading takes, are together of bulk at most 1048576: NARROWER than '..Said'. Prove '..Said' where nothing that the law and all that it calls make is longer than what came in: it says more and counts as full. Else prove '..UptoSaid'. A law counts once. -/
mutual
def uptoBulk {H : Type} : DataW H → Nat
  | .lit (.string bytes) => bytes.length + 1
  | .lit _ => 1
  | .nil => 1
  | .ptr d => uptoBulk d + 1
  | .slice elems spare => uptoBulkAll elems + uptoBulkAll spare + 1
  | .agg parts => uptoBulkAll parts + 1
  | .iface _ d => uptoBulk d + 1
  | .map entries => uptoBulkEntries entries + 1
  | .held _ => 1
def uptoBulkAll {H : Type} : List (DataW H) → Nat
  | [] => 0
  | d :: r => uptoBulk d + uptoBulkAll r
def uptoBulkEntries {H : Type} : List (Lit × DataW H) → Nat
  | [] => 0
  | x :: r => uptoBulkEntry x + uptoBulkEntries r
def uptoBulkEntry {H : Type} : Lit × DataW H → Nat
  | (.string bytes, d) => bytes.length + uptoBulk d + 1
  | (_, d) => uptoBulk d + 1
 end
def uptoSmall : (H : Type) → List (DataW H) → Bool := fun _ ds => decide (uptoBulkAll ds ≤ 1048576)
def OpenSpec.upto (s : _root_.Go.ChangeSpec) : _root_.Go.OpenSpec := { _root_.Go.OpenSpec.ofChange s with cond := some uptoSmall }

/-- 'ferryhythelaw2.AbpExact', WHERE WHAT IT READS IS OF BULK AT MOST 1048576: true; the input reads as it did. -/
def abpExactUptoRow : OpenClaim := { program := "ytjphjmgjhnpnjaa", sum := "a8b7404973d55b97b1c5249faa50b0c27f790a2e27db24c6efaf24addeae5b8d", func := "ferryhythe/ferryhythelaw2.AbpExact", spec := "abpExact", unfollowed := true, recurses := true, apart := false, narrowed := true }
def AbpExactUptoSaid : Prop := abpExactUptoRow.holds Try.pinned (OpenSpec.upto abpExactSpec)

/-- 'ferryhythelaw2.AbpEnds', WHERE WHAT IT READS IS OF BULK AT MOST 1048576: true; the input reads as it did. -/
def abpEndsUptoRow : OpenClaim := { program := "ytjphjmgjhnpnjaa", sum := "a8b7404973d55b97b1c5249faa50b0c27f790a2e27db24c6efaf24addeae5b8d", func := "ferryhythe/ferryhythelaw2.AbpEnds", spec := "abpEnds", unfollowed := true, recurses := true, apart := false, narrowed := true }
def AbpEndsUptoSaid : Prop := abpEndsUptoRow.holds Try.pinned (OpenSpec.upto abpEndsSpec)

end Rows
end Go.Proofs.Ytjphjmgjhnpnjaa
