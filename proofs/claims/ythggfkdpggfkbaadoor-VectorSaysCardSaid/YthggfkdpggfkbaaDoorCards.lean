/-
  DERIVED. GIVEN WITH THE SEED: THE CARDS: each row of YthggfkdpggfkbaaDoorRows.lean that lists a variable, with what it lists TIED to the program's text (the seventh form; the later family's looks); each row that meets fmt, with fmt's text TOLD by the authors' own Lean function (tested against real Go, not proved from fmt's source: count such statements apart). THE CARD IS WHAT COUNTS. Prove the row's statement (the work); the ties are given (YthggfkdpggfkbaaDoorTie.lean); close each card by the builder's one call (the guide's Derived/Test/ToyasCard.lean, 'card_holds'). Laid BY PROGRAM, IN A SANDBOX (cutbox-door.mjs). By AI agents, Wed Nov 11 2026. No macro, syntax, notation, axiom, sorry.
-/
import Derived.Test.YthggfkdpggfkbaaDoorRows
import GoSem.ClaimSeven
namespace Go.Proofs.YthggfkdpggfkbaaDoor
namespace Rows

/-- THE TIED CARD OF 'ferryhythelaw3.VectorSays'. -/
def vectorSaysCard : Claim7 := { stood := { row := vectorSaysRow, standIns := [], harness := (true, "bfb18ed7d36a6a498a9563896de0af0a6b5e08c826a436b020d18f770bf8753d"), looks := true }, kinds := [], alts := [], laidByText := true, laidKinds := [.handle], laidTests := true, laidLooks := .later }
def VectorSaysCardSaid : Prop := Claim7.holds Tryd.pinned (.plain (OpenSpec.ofChange vectorSaysSpec)) vectorSaysCard

/-- THE SECOND FORM's CARD OF 'ferryhythelaw3.VectorSays'. -/
def vectorSaysUptoCard : Claim7 := { stood := { row := vectorSaysUptoRow, standIns := [], harness := (true, "bfb18ed7d36a6a498a9563896de0af0a6b5e08c826a436b020d18f770bf8753d"), looks := true }, kinds := [], alts := [], laidByText := true, laidKinds := [.handle], laidTests := true, laidLooks := .later }
def VectorSaysUptoCardSaid : Prop := Claim7.holds Tryd.pinned (.plain (OpenSpec.upto vectorSaysSpec)) vectorSaysUptoCard
end Rows
end Go.Proofs.YthggfkdpggfkbaaDoor
