/-
  DERIVED. GIVEN WITH THE SEED: THE CARDS: each row of YtfgkbogccaiceaaDoorRows.lean that lists a variable, with what it lists TIED to the program's text (the seventh form; the later family's looks); each row that meets fmt, with fmt's text TOLD by the authors' own Lean function (tested against real Go, not proved from fmt's source: count such statements apart). THE CARD IS WHAT COUNTS. Prove the row's statement (the work); the ties are given (YtfgkbogccaiceaaDoorTie.lean); close each card by the builder's one call (the guide's Derived/Test/ToyasCard.lean, 'card_holds'). Laid BY PROGRAM, IN A SANDBOX (cutbox-door.mjs). By AI agents, Wed Nov 11 2026. No macro, syntax, notation, axiom, sorry.
-/
import Derived.Test.YtfgkbogccaiceaaDoorRows
import GoSem.ClaimSeven
namespace Go.Proofs.YtfgkbogccaiceaaDoor
namespace Rows

/-- THE TIED CARD OF 'ferryhythelaw1.StuffSays'. -/
def stuffSaysCard : Claim7 := { stood := { row := stuffSaysRow, standIns := [], harness := (true, "c2e0dd495632e487e2dd20a8bec207b7e7513375208c01101fb01711127cab93"), looks := true }, kinds := [], alts := [], laidByText := true, laidKinds := [.handle], laidTests := true, laidLooks := .later }
def StuffSaysCardSaid : Prop := Claim7.holds Tryd.pinned (.plain (OpenSpec.ofChange stuffSaysSpec)) stuffSaysCard

/-- THE SECOND FORM's CARD OF 'ferryhythelaw1.StuffSays'. -/
def stuffSaysUptoCard : Claim7 := { stood := { row := stuffSaysUptoRow, standIns := [], harness := (true, "c2e0dd495632e487e2dd20a8bec207b7e7513375208c01101fb01711127cab93"), looks := true }, kinds := [], alts := [], laidByText := true, laidKinds := [.handle], laidTests := true, laidLooks := .later }
def StuffSaysUptoCardSaid : Prop := Claim7.holds Tryd.pinned (.plain (OpenSpec.upto stuffSaysSpec)) stuffSaysUptoCard
end Rows
end Go.Proofs.YtfgkbogccaiceaaDoor
