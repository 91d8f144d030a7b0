/-
  DERIVED. GIVEN WITH THE SEED: THE CARDS: each row of YtedhippamfioeaaDoorRows.lean that lists a variable, with what it lists TIED to the program's text (the seventh form; the later family's looks); each row that meets fmt, with fmt's text TOLD by the authors' own Lean function (tested against real Go, not proved from fmt's source: count such statements apart). THE CARD IS WHAT COUNTS. Prove the row's statement (the work); the ties are given (YtedhippamfioeaaDoorTie.lean); close each card by the builder's one call (the guide's Derived/Test/ToyasCard.lean, 'card_holds'). Laid BY PROGRAM, IN A SANDBOX (cutbox-door.mjs). By AI agents, Wed Nov 11 2026. No macro, syntax, notation, axiom, sorry.
-/
import Derived.Test.YtedhippamfioeaaDoorRows
import GoSem.ClaimSeven
namespace Go.Proofs.YtedhippamfioeaaDoor
namespace Rows

/-- THE TIED CARD OF 'ferryhythelaw3.RpfSays'. -/
def rpfSaysCard : Claim7 := { stood := { row := rpfSaysRow, standIns := [], harness := (true, "767e6c2673190892976e3254b5cef38566996fe5e97eb693f3f1be98b4b7977d"), looks := true }, kinds := [], alts := [], laidByText := true, laidKinds := [.handle], laidTests := true, laidLooks := .later }
def RpfSaysCardSaid : Prop := Claim7.holds Tryd.pinned (.plain (OpenSpec.ofChange rpfSaysSpec)) rpfSaysCard

/-- THE SECOND FORM's CARD OF 'ferryhythelaw3.RpfSays'. -/
def rpfSaysUptoCard : Claim7 := { stood := { row := rpfSaysUptoRow, standIns := [], harness := (true, "767e6c2673190892976e3254b5cef38566996fe5e97eb693f3f1be98b4b7977d"), looks := true }, kinds := [], alts := [], laidByText := true, laidKinds := [.handle], laidTests := true, laidLooks := .later }
def RpfSaysUptoCardSaid : Prop := Claim7.holds Tryd.pinned (.plain (OpenSpec.upto rpfSaysSpec)) rpfSaysUptoCard
end Rows
end Go.Proofs.YtedhippamfioeaaDoor
