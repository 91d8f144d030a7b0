/-
  No cell of these rows narrows 'for every input' (looked for: loops, veiled, ifaces, maps, wideKeys, modest, calm, conditions, laid).
  DERIVED. THE GIVEN ROWS OF THIS SEAT. 4 by the template 'for every input the law returns true; each argument reads behind the call as it read before'; 0 by the template 'total and deterministic' (their statements: YtbemlbjnjpjlhaaTotals.lean).
  GIVEN WITH THE SEED: the statements are not yours to turn. If you find one false, say at which input.
  Laid BY PROGRAM, IN A SANDBOX (cutbox-rows.mjs): the forced cells as the released guide's own fill.sh prints them over the translation 341b36fe7b23dddf… (all of the seat's roots in one cut). By AI agents, Wed Nov 11 2026. No macro, syntax, notation, axiom, sorry.
-/
import Derived.Test.YtbemlbjnjpjlhaaChecked
import GoSem.Claim
import GoSem.ClaimJoined
import GoSem.ClaimMapViews
import Derived.JoinedTies
import Derived.KernelRfl
namespace Go.Proofs.Ytbemlbjnjpjlhaa
/- THE CELL 'sum', in the pinned program and in every row, IS THE sha256 OF THE DUMP (.gsa) THAT YtbemlbjnjpjlhaaProg.lean LOADS. Nothing in Lean hashes anything: it is a label: what it is worth is what the hold of that sum in a sandbox is worth. -/
noncomputable def Try.pinned : Pinned := { name := "ytbemlbjnjpjlhaa", sum := "341b36fe7b23dddf1d509e52d2cf0ab92f4c06b793aada3f8416d106ac2cf526", checked := Try.checked }
namespace Rows
def none {H : Type} : Left H := { results := [], args := [] }

/-- 'ferryhythelaw2.RenoSlow': WHATEVER THE INPUT: true; the input reads as it did. -/
def renoSlowSpec : ChangeSpec := { name := "renoSlow", fn := fun _ => fun
  | [d1, d2] => { results := [.lit (.bool true)], args := [d1, d2] }
  | _ => none }
def renoSlowRow : OpenClaim := { program := "ytbemlbjnjpjlhaa", sum := "341b36fe7b23dddf1d509e52d2cf0ab92f4c06b793aada3f8416d106ac2cf526", func := "ferryhythe/ferryhythelaw2.RenoSlow", spec := "renoSlow", apart := false }
def RenoSlowSaid : Prop := renoSlowRow.holds Try.pinned (OpenSpec.ofChange renoSlowSpec)

/-- ITS FALSE NEIGHBOUR: 'it returns false'. Refute it at one input. -/
def renoSlowWrong : ChangeSpec := { name := "renoSlow", fn := fun _ => fun
  | [d1, d2] => { results := [.lit (.bool false)], args := [d1, d2] }
  | _ => none }
def RenoSlowWrongFalsely : Prop := renoSlowRow.holds Try.pinned (OpenSpec.ofChange renoSlowWrong)

/-- 'ferryhythelaw2.RenoLost': WHATEVER THE INPUT: true; the input reads as it did. -/
def renoLostSpec : ChangeSpec := { name := "renoLost", fn := fun _ => fun
  | [d1, d2, d3] => { results := [.lit (.bool true)], args := [d1, d2, d3] }
  | _ => none }
def renoLostRow : OpenClaim := { program := "ytbemlbjnjpjlhaa", sum := "341b36fe7b23dddf1d509e52d2cf0ab92f4c06b793aada3f8416d106ac2cf526", func := "ferryhythe/ferryhythelaw2.RenoLost", spec := "renoLost", apart := false }
def RenoLostSaid : Prop := renoLostRow.holds Try.pinned (OpenSpec.ofChange renoLostSpec)

/-- ITS FALSE NEIGHBOUR: 'it returns false'. Refute it at one input. -/
def renoLostWrong : ChangeSpec := { name := "renoLost", fn := fun _ => fun
  | [d1, d2, d3] => { results := [.lit (.bool false)], args := [d1, d2, d3] }
  | _ => none }
def RenoLostWrongFalsely : Prop := renoLostRow.holds Try.pinned (OpenSpec.ofChange renoLostWrong)

/-- 'ferryhythelaw2.RenoPlays': WHATEVER THE INPUT: true; the input reads as it did. -/
def renoPlaysSpec : ChangeSpec := { name := "renoPlays", fn := fun _ => fun
  | [d] => { results := [.lit (.bool true)], args := [d] }
  | _ => none }
def renoPlaysRow : OpenClaim := { program := "ytbemlbjnjpjlhaa", sum := "341b36fe7b23dddf1d509e52d2cf0ab92f4c06b793aada3f8416d106ac2cf526", func := "ferryhythe/ferryhythelaw2.RenoPlays", spec := "renoPlays", apart := false }
def RenoPlaysSaid : Prop := renoPlaysRow.holds Try.pinned (OpenSpec.ofChange renoPlaysSpec)

/-- ITS FALSE NEIGHBOUR: 'it returns false'. Refute it at one input. -/
def renoPlaysWrong : ChangeSpec := { name := "renoPlays", fn := fun _ => fun
  | [d] => { results := [.lit (.bool false)], args := [d] }
  | _ => none }
def RenoPlaysWrongFalsely : Prop := renoPlaysRow.holds Try.pinned (OpenSpec.ofChange renoPlaysWrong)

/-- 'ferryhythetop.TopRoom': WHATEVER THE INPUT: true; the input reads as it did. -/
def topRoomSpec : ChangeSpec := { name := "topRoom", fn := fun _ => fun
  | [d1, d2] => { results := [.lit (.bool true)], args := [d1, d2] }
  | _ => none }
def topRoomRow : OpenClaim := { program := "ytbemlbjnjpjlhaa", sum := "341b36fe7b23dddf1d509e52d2cf0ab92f4c06b793aada3f8416d106ac2cf526", func := "ferryhythe/ferryhythetop.TopRoom", spec := "topRoom", apart := false }
def TopRoomSaid : Prop := topRoomRow.holds Try.pinned (OpenSpec.ofChange topRoomSpec)

/-- ITS FALSE NEIGHBOUR: 'it returns false'. Refute it at one input. -/
def topRoomWrong : ChangeSpec := { name := "topRoom", fn := fun _ => fun
  | [d1, d2] => { results := [.lit (.bool false)], args := [d1, d2] }
  | _ => none }
def TopRoomWrongFalsely : Prop := topRoomRow.holds Try.pinned (OpenSpec.ofChange topRoomWrong)

/- THE SECOND FORM. 'bulk': how many values and letters a reading holds, each counted each time it is reached (what is shared counts as often as it is met; a slice's spare places count too). A statement '..UptoSaid' is the law's where the arguments, and the package variables that the reading takes, are together of bulk at most 1048576: NARROWER than '..Said'. Prove '..Said' where nothing that the law and all that it calls make is longer than what came in: it says more and counts as full. Else prove '..UptoSaid'. A law counts once. -/
mutual
def uptoBulk {H : Type} : DataW H → Nat
  | .lit (.string bytes) => bytes.length + 1
  | .lit _ => 1
  | .nil => 1
  | .ptr d => uptoBulk d + 1
  | .slice elems spare => uptoBulkAll elems + uptoBulkAll spare + 1
  | .agg parts => uptoBulkAll parts + 1
  | .iface _ d => uptoBulk d + 1
  | .map entries => uptoBulkEntries entries + 1
  | .held _ => 1
def uptoBulkAll {H : Type} : List (DataW H) → Nat
  | [] => 0
  | d :: r => uptoBulk d + uptoBulkAll r
def uptoBulkEntries {H : Type} : List (Lit × DataW H) → Nat
  | [] => 0
  | x :: r => uptoBulkEntry x + uptoBulkEntries r
def uptoBulkEntry {H : Type} : Lit × DataW H → Nat
  | (.string bytes, d) => bytes.length + uptoBulk d + 1
  | (_, d) => uptoBulk d + 1
 end
def uptoSmall : (H : Type) → List (DataW H) → Bool := fun _ ds => decide (uptoBulkAll ds ≤ 1048576)
def OpenSpec.upto (s : _root_.Go.ChangeSpec) : _root_.Go.OpenSpec := { _root_.Go.OpenSpec.ofChange s with cond := some uptoSmall }

/-- 'ferryhythelaw2.RenoSlow', WHERE WHAT IT READS IS OF BULK AT MOST 1048576: true; the input reads as it did. -/
def renoSlowUptoRow : OpenClaim := { program := "ytbemlbjnjpjlhaa", sum := "341b36fe7b23dddf1d509e52d2cf0ab92f4c06b793aada3f8416d106ac2cf526", func := "ferryhythe/ferryhythelaw2.RenoSlow", spec := "renoSlow", apart := false, narrowed := true }
def RenoSlowUptoSaid : Prop := renoSlowUptoRow.holds Try.pinned (OpenSpec.upto renoSlowSpec)

/-- 'ferryhythelaw2.RenoLost', WHERE WHAT IT READS IS OF BULK AT MOST 1048576: true; the input reads as it did. -/
def renoLostUptoRow : OpenClaim := { program := "ytbemlbjnjpjlhaa", sum := "341b36fe7b23dddf1d509e52d2cf0ab92f4c06b793aada3f8416d106ac2cf526", func := "ferryhythe/ferryhythelaw2.RenoLost", spec := "renoLost", apart := false, narrowed := true }
def RenoLostUptoSaid : Prop := renoLostUptoRow.holds Try.pinned (OpenSpec.upto renoLostSpec)

/-- 'ferryhythelaw2.RenoPlays', WHERE WHAT IT READS IS OF BULK AT MOST 1048576: true; the input reads as it did. -/
def renoPlaysUptoRow : OpenClaim := { program := "ytbemlbjnjpjlhaa", sum := "341b36fe7b23dddf1d509e52d2cf0ab92f4c06b793aada3f8416d106ac2cf526", func := "ferryhythe/ferryhythelaw2.RenoPlays", spec := "renoPlays", apart := false, narrowed := true }
def RenoPlaysUptoSaid : Prop := renoPlaysUptoRow.holds Try.pinned (OpenSpec.upto renoPlaysSpec)

/-- 'ferryhythetop.TopRoom', WHERE WHAT IT READS IS OF BULK AT MOST 1048576: true; the input reads as it did. -/
def topRoomUptoRow : OpenClaim := { program := "ytbemlbjnjpjlhaa", sum := "341b36fe7b23dddf1d509e52d2cf0ab92f4c06b793aada3f8416d106ac2cf526", func := "ferryhythe/ferryhythetop.TopRoom", spec := "topRoom", apart := false, narrowed := true }
def TopRoomUptoSaid : Prop := topRoomUptoRow.holds Try.pinned (OpenSpec.upto topRoomSpec)

end Rows
end Go.Proofs.Ytbemlbjnjpjlhaa
