/-
  No cell of these rows narrows 'for every input' (looked for: loops, veiled, ifaces, maps, wideKeys, modest, calm, conditions, laid).
  DERIVED. THE GIVEN ROWS OF THIS SEAT. 4 by the template 'for every input the law returns true; each argument reads behind the call as it read before'; 0 by the template 'total and deterministic' (their statements: YtcleanjacijfoaaTotals.lean).
  GIVEN WITH THE SEED: the statements are not yours to turn. If you find one false, say at which input.
  Laid BY PROGRAM, IN A SANDBOX (cutbox-rows.mjs): the forced cells as the released guide's own fill.sh prints them over the translation 98686afc19f75ae4… (all of the seat's roots in one cut). By AI agents, Wed Nov 11 2026. No macro, syntax, notation, axiom, sorry.
-/
import Derived.Test.YtcleanjacijfoaaChecked
import GoSem.Claim
import GoSem.ClaimJoined
import GoSem.ClaimMapViews
import Derived.JoinedTies
import Derived.KernelRfl
namespace Go.Proofs.Ytcleanjacijfoaa
/- THE CELL 'sum', in the pinned program and in every row, IS THE sha256 OF THE DUMP (.gsa) THAT YtcleanjacijfoaaProg.lean LOADS. Nothing in Lean hashes anything: it is a label: what it is worth is what the hold of that sum in a sandbox is worth. -/
noncomputable def Try.pinned : Pinned := { name := "ytcleanjacijfoaa", sum := "98686afc19f75ae45a41339744e7c4f3550304082f4e95ddead7d5b0f0ca72ef", checked := Try.checked }
namespace Rows
def none {H : Type} : Left H := { results := [], args := [] }

/-- 'ferryhythelaw4.MuxWhole': WHATEVER THE INPUT: true; the input reads as it did. -/
def muxWholeSpec : ChangeSpec := { name := "muxWhole", fn := fun _ => fun
  | [d1, d2, d3, d4] => { results := [.lit (.bool true)], args := [d1, d2, d3, d4] }
  | _ => none }
def muxWholeRow : OpenClaim := { program := "ytcleanjacijfoaa", sum := "98686afc19f75ae45a41339744e7c4f3550304082f4e95ddead7d5b0f0ca72ef", func := "ferryhythe/ferryhythelaw4.MuxWhole", spec := "muxWhole", apart := false }
def MuxWholeSaid : Prop := muxWholeRow.holds Try.pinned (OpenSpec.ofChange muxWholeSpec)

/-- ITS FALSE NEIGHBOUR: 'it returns false'. Refute it at one input. -/
def muxWholeWrong : ChangeSpec := { name := "muxWhole", fn := fun _ => fun
  | [d1, d2, d3, d4] => { results := [.lit (.bool false)], args := [d1, d2, d3, d4] }
  | _ => none }
def MuxWholeWrongFalsely : Prop := muxWholeRow.holds Try.pinned (OpenSpec.ofChange muxWholeWrong)

/-- 'ferryhythelaw4.MuxApart': WHATEVER THE INPUT: true; the input reads as it did. -/
def muxApartSpec : ChangeSpec := { name := "muxApart", fn := fun _ => fun
  | [d1, d2, d3] => { results := [.lit (.bool true)], args := [d1, d2, d3] }
  | _ => none }
def muxApartRow : OpenClaim := { program := "ytcleanjacijfoaa", sum := "98686afc19f75ae45a41339744e7c4f3550304082f4e95ddead7d5b0f0ca72ef", func := "ferryhythe/ferryhythelaw4.MuxApart", spec := "muxApart", apart := false }
def MuxApartSaid : Prop := muxApartRow.holds Try.pinned (OpenSpec.ofChange muxApartSpec)

/-- ITS FALSE NEIGHBOUR: 'it returns false'. Refute it at one input. -/
def muxApartWrong : ChangeSpec := { name := "muxApart", fn := fun _ => fun
  | [d1, d2, d3] => { results := [.lit (.bool false)], args := [d1, d2, d3] }
  | _ => none }
def MuxApartWrongFalsely : Prop := muxApartRow.holds Try.pinned (OpenSpec.ofChange muxApartWrong)

/-- 'ferryhythelaw4.MuxTwice': WHATEVER THE INPUT: true; the input reads as it did. -/
def muxTwiceSpec : ChangeSpec := { name := "muxTwice", fn := fun _ => fun
  | [d1, d2] => { results := [.lit (.bool true)], args := [d1, d2] }
  | _ => none }
def muxTwiceRow : OpenClaim := { program := "ytcleanjacijfoaa", sum := "98686afc19f75ae45a41339744e7c4f3550304082f4e95ddead7d5b0f0ca72ef", func := "ferryhythe/ferryhythelaw4.MuxTwice", spec := "muxTwice", apart := false }
def MuxTwiceSaid : Prop := muxTwiceRow.holds Try.pinned (OpenSpec.ofChange muxTwiceSpec)

/-- ITS FALSE NEIGHBOUR: 'it returns false'. Refute it at one input. -/
def muxTwiceWrong : ChangeSpec := { name := "muxTwice", fn := fun _ => fun
  | [d1, d2] => { results := [.lit (.bool false)], args := [d1, d2] }
  | _ => none }
def MuxTwiceWrongFalsely : Prop := muxTwiceRow.holds Try.pinned (OpenSpec.ofChange muxTwiceWrong)

/-- 'ferryhythetop.TopFrames': WHATEVER THE INPUT: true; the input reads as it did. -/
def topFramesSpec : ChangeSpec := { name := "topFrames", fn := fun _ => fun
  | [d1, d2, d3] => { results := [.lit (.bool true)], args := [d1, d2, d3] }
  | _ => none }
def topFramesRow : OpenClaim := { program := "ytcleanjacijfoaa", sum := "98686afc19f75ae45a41339744e7c4f3550304082f4e95ddead7d5b0f0ca72ef", func := "ferryhythe/ferryhythetop.TopFrames", spec := "topFrames", unfollowed := true, recurses := true, apart := false }
def TopFramesSaid : Prop := topFramesRow.holds Try.pinned (OpenSpec.ofChange topFramesSpec)

/-- ITS FALSE NEIGHBOUR: 'it returns false'. Refute it at one input. -/
def topFramesWrong : ChangeSpec := { name := "topFrames", fn := fun _ => fun
  | [d1, d2, d3] => { results := [.lit (.bool false)], args := [d1, d2, d3] }
  | _ => none }
def TopFramesWrongFalsely : Prop := topFramesRow.holds Try.pinned (OpenSpec.ofChange topFramesWrong)

/- THE SECOND FORM. 'bulk': how many values and letters a reading holds, each counted each time it is reached (what is shared counts as often as it is met; a slice's spare places count too). A statement '..UptoSaid' is the law's where the arguments, and the package variables that the reading takes, are together of bulk at most 1048576: NARROWER than '..Said'. Prove '..Said' where nothing that the law and all that it calls make is longer than what came in: it says more and counts as full. Else prove '..UptoSaid'. A law counts once. -/
mutual
def uptoBulk {H : Type} : DataW H → Nat
  | .lit (.string bytes) => bytes.length + 1
  | .lit _ => 1
  | .nil => 1
  | .ptr d => uptoBulk d + 1
  | .slice elems spare => uptoBulkAll elems + uptoBulkAll spare + 1
  | .agg parts => uptoBulkAll parts + 1
  | .iface _ d => uptoBulk d + 1
  | .map entries => uptoBulkEntries entries + 1
  | .held _ => 1
def uptoBulkAll {H : Type} : List (DataW H) → Nat
  | [] => 0
  | d :: r => uptoBulk d + uptoBulkAll r
def uptoBulkEntries {H : Type} : List (Lit × DataW H) → Nat
  | [] => 0
  | x :: r => uptoBulkEntry x + uptoBulkEntries r
def uptoBulkEntry {H : Type} : Lit × DataW H → Nat
  | (.string bytes, d) => bytes.length + uptoBulk d + 1
  | (_, d) => uptoBulk d + 1
 end
def uptoSmall : (H : Type) → List (DataW H) → Bool := fun _ ds => decide (uptoBulkAll ds ≤ 1048576)
def OpenSpec.upto (s : _root_.Go.ChangeSpec) : _root_.Go.OpenSpec := { _root_.Go.OpenSpec.ofChange s with cond := some uptoSmall }

/-- 'ferryhythelaw4.MuxWhole', WHERE WHAT IT READS IS OF BULK AT MOST 1048576: true; the input reads as it did. -/
def muxWholeUptoRow : OpenClaim := { program := "ytcleanjacijfoaa", sum := "98686afc19f75ae45a41339744e7c4f3550304082f4e95ddead7d5b0f0ca72ef", func := "ferryhythe/ferryhythelaw4.MuxWhole", spec := "muxWhole", apart := false, narrowed := true }
def MuxWholeUptoSaid : Prop := muxWholeUptoRow.holds Try.pinned (OpenSpec.upto muxWholeSpec)

/-- 'ferryhythelaw4.MuxApart', WHERE WHAT IT READS IS OF BULK AT MOST 1048576: true; the input reads as it did. -/
def muxApartUptoRow : OpenClaim := { program := "ytcleanjacijfoaa", sum := "98686afc19f75ae45a41339744e7c4f3550304082f4e95ddead7d5b0f0ca72ef", func := "ferryhythe/ferryhythelaw4.MuxApart", spec := "muxApart", apart := false, narrowed := true }
def MuxApartUptoSaid : Prop := muxApartUptoRow.holds Try.pinned (OpenSpec.upto muxApartSpec)

/-- 'ferryhythelaw4.MuxTwice', WHERE WHAT IT READS IS OF BULK AT MOST 1048576: true; the input reads as it did. -/
def muxTwiceUptoRow : OpenClaim := { program := "ytcleanjacijfoaa", sum := "98686afc19f75ae45a41339744e7c4f3550304082f4e95ddead7d5b0f0ca72ef", func := "ferryhythe/ferryhythelaw4.MuxTwice", spec := "muxTwice", apart := false, narrowed := true }
def MuxTwiceUptoSaid : Prop := muxTwiceUptoRow.holds Try.pinned (OpenSpec.upto muxTwiceSpec)

/-- 'ferryhythetop.TopFrames', WHERE WHAT IT READS IS OF BULK AT MOST 1048576: true; the input reads as it did. -/
def topFramesUptoRow : OpenClaim := { program := "ytcleanjacijfoaa", sum := "98686afc19f75ae45a41339744e7c4f3550304082f4e95ddead7d5b0f0ca72ef", func := "ferryhythe/ferryhythetop.TopFrames", spec := "topFrames", unfollowed := true, recurses := true, apart := false, narrowed := true }
def TopFramesUptoSaid : Prop := topFramesUptoRow.holds Try.pinned (OpenSpec.upto topFramesSpec)

end Rows
end Go.Proofs.Ytcleanjacijfoaa
