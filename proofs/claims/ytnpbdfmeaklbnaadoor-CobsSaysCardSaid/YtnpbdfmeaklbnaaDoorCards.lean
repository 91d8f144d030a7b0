/-
  DERIVED. GIVEN WITH THE SEED: THE CARDS: each row of YtnpbdfmeaklbnaaDoorRows.lean that lists a variable, with what it lists TIED to the program's text (the seventh form; the later family's looks); each row that meets fmt, with fmt's text TOLD by the authors' own Lean function (tested against real Go, not proved from fmt's source: count such statements apart). THE CARD IS WHAT COUNTS. Prove the row's statement (the work); the ties are given (YtnpbdfmeaklbnaaDoorTie.lean); close each card by the builder's one call (the guide's Derived/Test/ToyasCard.lean, 'card_holds'). Laid BY PROGRAM, IN A SANDBOX (cutbox-door.mjs). By AI agents, Wed Nov 11 2026. No macro, syntax, notation, axiom, sorry.
-/
import Derived.Test.YtnpbdfmeaklbnaaDoorRows
import GoSem.ClaimSeven
namespace Go.Proofs.YtnpbdfmeaklbnaaDoor
namespace Rows

/-- THE TIED CARD OF 'ferryhythelaw1.CobsSays'. -/
def cobsSaysCard : Claim7 := { stood := { row := cobsSaysRow, standIns := [], harness := (true, "310e67e47df02723519675669613cb78476c808c1595a1dab71fb093d2c26e98"), looks := true }, kinds := [], alts := [], laidByText := true, laidKinds := [.handle], laidTests := true, laidLooks := .later }
def CobsSaysCardSaid : Prop := Claim7.holds Tryd.pinned (.plain (OpenSpec.ofChange cobsSaysSpec)) cobsSaysCard

/-- THE SECOND FORM's CARD OF 'ferryhythelaw1.CobsSays'. -/
def cobsSaysUptoCard : Claim7 := { stood := { row := cobsSaysUptoRow, standIns := [], harness := (true, "310e67e47df02723519675669613cb78476c808c1595a1dab71fb093d2c26e98"), looks := true }, kinds := [], alts := [], laidByText := true, laidKinds := [.handle], laidTests := true, laidLooks := .later }
def CobsSaysUptoCardSaid : Prop := Claim7.holds Tryd.pinned (.plain (OpenSpec.upto cobsSaysSpec)) cobsSaysUptoCard
end Rows
end Go.Proofs.YtnpbdfmeaklbnaaDoor
