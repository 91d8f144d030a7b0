/-
  No cell of these rows narrows 'for every input' (looked for: loops, veiled, ifaces, maps, wideKeys, modest, calm, conditions, laid).
  DERIVED. THE GIVEN ROWS OF THIS SEAT. 3 by the template 'for every input the law returns true; each argument reads behind the call as it read before'; 0 by the template 'total and deterministic' (their statements: YtbjoabggdhndmaaTotals.lean).
  GIVEN WITH THE SEED: the statements are not yours to turn. If you find one false, say at which input.
  Laid BY PROGRAM, IN A SANDBOX (cutbox-rows.mjs): the forced cells as the released guide's own fill.sh prints them over the translation bd888833cfcf6d8f… (all of the seat's roots in one cut). By AI agents, Wed Nov 11 2026. No macro, syntax, notation, axiom, sorry.
-/
import Derived.Test.YtbjoabggdhndmaaChecked
import GoSem.Claim
import GoSem.ClaimJoined
import GoSem.ClaimMapViews
import Derived.JoinedTies
import Derived.KernelRfl
namespace Go.Proofs.Ytbjoabggdhndmaa
/- THE CELL 'sum', in the pinned program and in every row, IS THE sha256 OF THE DUMP (.gsa) THAT YtbjoabggdhndmaaProg.lean LOADS. Nothing in Lean hashes anything: it is a label: what it is worth is what the hold of that sum in a sandbox is worth. -/
noncomputable def Try.pinned : Pinned := { name := "ytbjoabggdhndmaa", sum := "bd888833cfcf6d8fe306789ded88f1506dd16f2a9a1969846b36ac96188cbf2b", checked := Try.checked }
namespace Rows
def none {H : Type} : Left H := { results := [], args := [] }

/-- 'ferryhythelaw2.AimdFair': WHATEVER THE INPUT: true; the input reads as it did. -/
def aimdFairSpec : ChangeSpec := { name := "aimdFair", fn := fun _ => fun
  | [d1, d2, d3] => { results := [.lit (.bool true)], args := [d1, d2, d3] }
  | _ => none }
def aimdFairRow : OpenClaim := { program := "ytbjoabggdhndmaa", sum := "bd888833cfcf6d8fe306789ded88f1506dd16f2a9a1969846b36ac96188cbf2b", func := "ferryhythe/ferryhythelaw2.AimdFair", spec := "aimdFair", unfollowed := true, recurses := true, apart := false }
def AimdFairSaid : Prop := aimdFairRow.holds Try.pinned (OpenSpec.ofChange aimdFairSpec)

/-- ITS FALSE NEIGHBOUR: 'it returns false'. Refute it at one input. -/
def aimdFairWrong : ChangeSpec := { name := "aimdFair", fn := fun _ => fun
  | [d1, d2, d3] => { results := [.lit (.bool false)], args := [d1, d2, d3] }
  | _ => none }
def AimdFairWrongFalsely : Prop := aimdFairRow.holds Try.pinned (OpenSpec.ofChange aimdFairWrong)

/-- 'ferryhythelaw2.AimdRoom': WHATEVER THE INPUT: true; the input reads as it did. -/
def aimdRoomSpec : ChangeSpec := { name := "aimdRoom", fn := fun _ => fun
  | [d1, d2, d3] => { results := [.lit (.bool true)], args := [d1, d2, d3] }
  | _ => none }
def aimdRoomRow : OpenClaim := { program := "ytbjoabggdhndmaa", sum := "bd888833cfcf6d8fe306789ded88f1506dd16f2a9a1969846b36ac96188cbf2b", func := "ferryhythe/ferryhythelaw2.AimdRoom", spec := "aimdRoom", unfollowed := true, recurses := true, apart := false }
def AimdRoomSaid : Prop := aimdRoomRow.holds Try.pinned (OpenSpec.ofChange aimdRoomSpec)

/-- ITS FALSE NEIGHBOUR: 'it returns false'. Refute it at one input. -/
def aimdRoomWrong : ChangeSpec := { name := "aimdRoom", fn := fun _ => fun
  | [d1, d2, d3] => { results := [.lit (.bool false)], args := [d1, d2, d3] }
  | _ => none }
def AimdRoomWrongFalsely : Prop := aimdRoomRow.holds Try.pinned (OpenSpec.ofChange aimdRoomWrong)

/-- 'ferryhythelaw2.AimdSame': WHATEVER THE INPUT: true; the input reads as it did. -/
def aimdSameSpec : ChangeSpec := { name := "aimdSame", fn := fun _ => fun
  | [d1, d2, d3, d4, d5] => { results := [.lit (.bool true)], args := [d1, d2, d3, d4, d5] }
  | _ => none }
def aimdSameRow : OpenClaim := { program := "ytbjoabggdhndmaa", sum := "bd888833cfcf6d8fe306789ded88f1506dd16f2a9a1969846b36ac96188cbf2b", func := "ferryhythe/ferryhythelaw2.AimdSame", spec := "aimdSame", unfollowed := true, recurses := true, apart := false }
def AimdSameSaid : Prop := aimdSameRow.holds Try.pinned (OpenSpec.ofChange aimdSameSpec)

/-- ITS FALSE NEIGHBOUR: 'it returns false'. Refute it at one input. -/
def aimdSameWrong : ChangeSpec := { name := "aimdSame", fn := fun _ => fun
  | [d1, d2, d3, d4, d5] => { results := [.lit (.bool false)], args := [d1, d2, d3, d4, d5] }
  | _ => none }
def AimdSameWrongFalsely : Prop := aimdSameRow.holds Try.pinned (OpenSpec.ofChange aimdSameWrong)

/- THE SECOND FORM. 'bulk': how many values and letters a reading holds, each counted each time it is reached (what is shared counts as often as it is met; a slice's spare places count too). A statement '..UptoSaid' is the law's where the arguments, and the package variables that the reading takes, are together of bulk at most 1048576: NARROWER than '..Said'. Prove '..Said' where nothing that the law and all that it calls make is longer than what came in: it says more and counts as full. Else prove '..UptoSaid'. A law counts once. -/
mutual
def uptoBulk {H : Type} : DataW H → Nat
  | .lit (.string bytes) => bytes.length + 1
  | .lit _ => 1
  | .nil => 1
  | .ptr d => uptoBulk d + 1
  | .slice elems spare => uptoBulkAll elems + uptoBulkAll spare + 1
  | .agg parts => uptoBulkAll parts + 1
  | .iface _ d => uptoBulk d + 1
  | .map entries => uptoBulkEntries entries + 1
  | .held _ => 1
def uptoBulkAll {H : Type} : List (DataW H) → Nat
  | [] => 0
  | d :: r => uptoBulk d + uptoBulkAll r
def uptoBulkEntries {H : Type} : List (Lit × DataW H) → Nat
  | [] => 0
  | x :: r => uptoBulkEntry x + uptoBulkEntries r
def uptoBulkEntry {H : Type} : Lit × DataW H → Nat
  | (.string bytes, d) => bytes.length + uptoBulk d + 1
  | (_, d) => uptoBulk d + 1
 end
def uptoSmall : (H : Type) → List (DataW H) → Bool := fun _ ds => decide (uptoBulkAll ds ≤ 1048576)
def OpenSpec.upto (s : _root_.Go.ChangeSpec) : _root_.Go.OpenSpec := { _root_.Go.OpenSpec.ofChange s with cond := some uptoSmall }

/-- 'ferryhythelaw2.AimdFair', WHERE WHAT IT READS IS OF BULK AT MOST 1048576: true; the input reads as it did. -/
def aimdFairUptoRow : OpenClaim := { program := "ytbjoabggdhndmaa", sum := "bd888833cfcf6d8fe306789ded88f1506dd16f2a9a1969846b36ac96188cbf2b", func := "ferryhythe/ferryhythelaw2.AimdFair", spec := "aimdFair", unfollowed := true, recurses := true, apart := false, narrowed := true }
def AimdFairUptoSaid : Prop := aimdFairUptoRow.holds Try.pinned (OpenSpec.upto aimdFairSpec)

/-- 'ferryhythelaw2.AimdRoom', WHERE WHAT IT READS IS OF BULK AT MOST 1048576: true; the input reads as it did. -/
def aimdRoomUptoRow : OpenClaim := { program := "ytbjoabggdhndmaa", sum := "bd888833cfcf6d8fe306789ded88f1506dd16f2a9a1969846b36ac96188cbf2b", func := "ferryhythe/ferryhythelaw2.AimdRoom", spec := "aimdRoom", unfollowed := true, recurses := true, apart := false, narrowed := true }
def AimdRoomUptoSaid : Prop := aimdRoomUptoRow.holds Try.pinned (OpenSpec.upto aimdRoomSpec)

/-- 'ferryhythelaw2.AimdSame', WHERE WHAT IT READS IS OF BULK AT MOST 1048576: true; the input reads as it did. -/
def aimdSameUptoRow : OpenClaim := { program := "ytbjoabggdhndmaa", sum := "bd888833cfcf6d8fe306789ded88f1506dd16f2a9a1969846b36ac96188cbf2b", func := "ferryhythe/ferryhythelaw2.AimdSame", spec := "aimdSame", unfollowed := true, recurses := true, apart := false, narrowed := true }
def AimdSameUptoSaid : Prop := aimdSameUptoRow.holds Try.pinned (OpenSpec.upto aimdSameSpec)

end Rows
end Go.Proofs.Ytbjoabggdhndmaa
