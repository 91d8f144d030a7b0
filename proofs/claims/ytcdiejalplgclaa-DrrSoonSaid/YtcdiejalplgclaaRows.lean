/-
  No cell of these rows narrows 'for every input' (looked for: loops, veiled, ifaces, maps, wideKeys, modest, calm, conditions, laid).
  DERIVED. THE GIVEN ROWS OF THIS SEAT. 3 by the template 'for every input the law returns true; each argument reads behind the call as it read before'; 0 by the template 'total and deterministic' (their statements: YtcdiejalplgclaaTotals.lean).
  GIVEN WITH THE SEED: the statements are not yours to turn. If you find one false, say at which input.
  Laid BY PROGRAM, IN A SANDBOX (cutbox-rows.mjs): the forced cells as the released guide's own fill.sh prints them over the translation b886c3f914063de8… (all of the seat's roots in one cut). By AI agents, Wed Nov 11 2026. No macro, syntax, notation, axiom, sorry.
-/
import Derived.Test.YtcdiejalplgclaaChecked
import GoSem.Claim
import GoSem.ClaimJoined
import GoSem.ClaimMapViews
import Derived.JoinedTies
import Derived.KernelRfl
namespace Go.Proofs.Ytcdiejalplgclaa
/- THE CELL 'sum', in the pinned program and in every row, IS THE sha256 OF THE DUMP (.gsa) THAT YtcdiejalplgclaaProg.lean LOADS. Nothing in Lean hashes anything: it is a label: what it is worth is what the hold of that sum in a sandbox is worth. -/
noncomputable def Try.pinned : Pinned := { name := "ytcdiejalplgclaa", sum := "b886c3f914063de8db9a9918dff6db6fd5c192a6c1fa7631f09187a7e57bf3a3", checked := Try.checked }
namespace Rows
def none {H : Type} : Left H := { results := [], args := [] }

/-- 'ferryhythelaw3.DrrOnce': WHATEVER THE INPUT: true; the input reads as it did. -/
def drrOnceSpec : ChangeSpec := { name := "drrOnce", fn := fun _ => fun
  | [d1, d2] => { results := [.lit (.bool true)], args := [d1, d2] }
  | _ => none }
def drrOnceRow : OpenClaim := { program := "ytcdiejalplgclaa", sum := "b886c3f914063de8db9a9918dff6db6fd5c192a6c1fa7631f09187a7e57bf3a3", func := "ferryhythe/ferryhythelaw3.DrrOnce", spec := "drrOnce", unfollowed := true, recurses := true, apart := false }
def DrrOnceSaid : Prop := drrOnceRow.holds Try.pinned (OpenSpec.ofChange drrOnceSpec)

/-- ITS FALSE NEIGHBOUR: 'it returns false'. Refute it at one input. -/
def drrOnceWrong : ChangeSpec := { name := "drrOnce", fn := fun _ => fun
  | [d1, d2] => { results := [.lit (.bool false)], args := [d1, d2] }
  | _ => none }
def DrrOnceWrongFalsely : Prop := drrOnceRow.holds Try.pinned (OpenSpec.ofChange drrOnceWrong)

/-- 'ferryhythelaw3.DrrFair': WHATEVER THE INPUT: true; the input reads as it did. -/
def drrFairSpec : ChangeSpec := { name := "drrFair", fn := fun _ => fun
  | [d1, d2, d3, d4] => { results := [.lit (.bool true)], args := [d1, d2, d3, d4] }
  | _ => none }
def drrFairRow : OpenClaim := { program := "ytcdiejalplgclaa", sum := "b886c3f914063de8db9a9918dff6db6fd5c192a6c1fa7631f09187a7e57bf3a3", func := "ferryhythe/ferryhythelaw3.DrrFair", spec := "drrFair", unfollowed := true, recurses := true, apart := false }
def DrrFairSaid : Prop := drrFairRow.holds Try.pinned (OpenSpec.ofChange drrFairSpec)

/-- ITS FALSE NEIGHBOUR: 'it returns false'. Refute it at one input. -/
def drrFairWrong : ChangeSpec := { name := "drrFair", fn := fun _ => fun
  | [d1, d2, d3, d4] => { results := [.lit (.bool false)], args := [d1, d2, d3, d4] }
  | _ => none }
def DrrFairWrongFalsely : Prop := drrFairRow.holds Try.pinned (OpenSpec.ofChange drrFairWrong)

/-- 'ferryhythelaw3.DrrSoon': WHATEVER THE INPUT: true; the input reads as it did. -/
def drrSoonSpec : ChangeSpec := { name := "drrSoon", fn := fun _ => fun
  | [d1, d2, d3] => { results := [.lit (.bool true)], args := [d1, d2, d3] }
  | _ => none }
def drrSoonRow : OpenClaim := { program := "ytcdiejalplgclaa", sum := "b886c3f914063de8db9a9918dff6db6fd5c192a6c1fa7631f09187a7e57bf3a3", func := "ferryhythe/ferryhythelaw3.DrrSoon", spec := "drrSoon", unfollowed := true, recurses := true, apart := false }
def DrrSoonSaid : Prop := drrSoonRow.holds Try.pinned (OpenSpec.ofChange drrSoonSpec)

/-- ITS FALSE NEIGHBOUR: 'it returns false'. Refute it at one input. -/
def drrSoonWrong : ChangeSpec := { name := "drrSoon", fn := fun _ => fun
  | [d1, d2, d3] => { results := [.lit (.bool false)], args := [d1, d2, d3] }
  | _ => none }
def DrrSoonWrongFalsely : Prop := drrSoonRow.holds Try.pinned (OpenSpec.ofChange drrSoonWrong)

/- THE SECOND FORM. 'bulk': how many values and letters a reading holds, each counted each time it is reached (what is shared counts as often as it is met; a slice's spare places count too). A statement '..UptoSaid' is the law's where the arguments, and the package variables that the reading takes, are together of bulk at most 1048576: NARROWER than '..Said'. Prove '..Said' where nothing that the law and all that it calls make is longer than what came in: it says more and counts as full. Else prove '..UptoSaid'. A law counts once. -/
mutual
def uptoBulk {H : Type} : DataW H → Nat
  | .lit (.string bytes) => bytes.length + 1
  | .lit _ => 1
  | .nil => 1
  | .ptr d => uptoBulk d + 1
  | .slice elems spare => uptoBulkAll elems + uptoBulkAll spare + 1
  | .agg parts => uptoBulkAll parts + 1
  | .iface _ d => uptoBulk d + 1
  | .map entries => uptoBulkEntries entries + 1
  | .held _ => 1
def uptoBulkAll {H : Type} : List (DataW H) → Nat
  | [] => 0
  | d :: r => uptoBulk d + uptoBulkAll r
def uptoBulkEntries {H : Type} : List (Lit × DataW H) → Nat
  | [] => 0
  | x :: r => uptoBulkEntry x + uptoBulkEntries r
def uptoBulkEntry {H : Type} : Lit × DataW H → Nat
  | (.string bytes, d) => bytes.length + uptoBulk d + 1
  | (_, d) => uptoBulk d + 1
 end
def uptoSmall : (H : Type) → List (DataW H) → Bool := fun _ ds => decide (uptoBulkAll ds ≤ 1048576)
def OpenSpec.upto (s : _root_.Go.ChangeSpec) : _root_.Go.OpenSpec := { _root_.Go.OpenSpec.ofChange s with cond := some uptoSmall }

/-- 'ferryhythelaw3.DrrOnce', WHERE WHAT IT READS IS OF BULK AT MOST 1048576: true; the input reads as it did. -/
def drrOnceUptoRow : OpenClaim := { program := "ytcdiejalplgclaa", sum := "b886c3f914063de8db9a9918dff6db6fd5c192a6c1fa7631f09187a7e57bf3a3", func := "ferryhythe/ferryhythelaw3.DrrOnce", spec := "drrOnce", unfollowed := true, recurses := true, apart := false, narrowed := true }
def DrrOnceUptoSaid : Prop := drrOnceUptoRow.holds Try.pinned (OpenSpec.upto drrOnceSpec)

/-- 'ferryhythelaw3.DrrFair', WHERE WHAT IT READS IS OF BULK AT MOST 1048576: true; the input reads as it did. -/
def drrFairUptoRow : OpenClaim := { program := "ytcdiejalplgclaa", sum := "b886c3f914063de8db9a9918dff6db6fd5c192a6c1fa7631f09187a7e57bf3a3", func := "ferryhythe/ferryhythelaw3.DrrFair", spec := "drrFair", unfollowed := true, recurses := true, apart := false, narrowed := true }
def DrrFairUptoSaid : Prop := drrFairUptoRow.holds Try.pinned (OpenSpec.upto drrFairSpec)

/-- 'ferryhythelaw3.DrrSoon', WHERE WHAT IT READS IS OF BULK AT MOST 1048576: true; the input reads as it did. -/
def drrSoonUptoRow : OpenClaim := { program := "ytcdiejalplgclaa", sum := "b886c3f914063de8db9a9918dff6db6fd5c192a6c1fa7631f09187a7e57bf3a3", func := "ferryhythe/ferryhythelaw3.DrrSoon", spec := "drrSoon", unfollowed := true, recurses := true, apart := false, narrowed := true }
def DrrSoonUptoSaid : Prop := drrSoonUptoRow.holds Try.pinned (OpenSpec.upto drrSoonSpec)

end Rows
end Go.Proofs.Ytcdiejalplgclaa
