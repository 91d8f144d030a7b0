/-
  DERIVED. GIVEN WITH THE SEED: THE CARDS: each row of YteggajhpjdidcaaDoorRows.lean that lists a variable, with what it lists TIED to the program's text (the seventh form; the later family's looks); each row that meets fmt, with fmt's text TOLD by the authors' own Lean function (tested against real Go, not proved from fmt's source: count such statements apart). THE CARD IS WHAT COUNTS. Prove the row's statement (the work); the ties are given (YteggajhpjdidcaaDoorTie.lean); close each card by the builder's one call (the guide's Derived/Test/ToyasCard.lean, 'card_holds'). Laid BY PROGRAM, IN A SANDBOX (cutbox-door.mjs). By AI agents, Wed Nov 11 2026. No macro, syntax, notation, axiom, sorry.
-/
import Derived.Test.YteggajhpjdidcaaDoorRows
import GoSem.ClaimSeven
namespace Go.Proofs.YteggajhpjdidcaaDoor
namespace Rows

/-- THE TIED CARD OF 'ferryhythelaw4.RetrySays'. -/
def retrySaysCard : Claim7 := { stood := { row := retrySaysRow, standIns := [], harness := (true, "2c82b48165a424c97930f8603d7290267aff93dfa4f7a6d913fa3530b7aebf1f"), looks := true }, kinds := [], alts := [], laidByText := true, laidKinds := [.handle], laidTests := true, laidLooks := .later }
def RetrySaysCardSaid : Prop := Claim7.holds Tryd.pinned (.plain (OpenSpec.ofChange retrySaysSpec)) retrySaysCard

/-- THE SECOND FORM's CARD OF 'ferryhythelaw4.RetrySays'. -/
def retrySaysUptoCard : Claim7 := { stood := { row := retrySaysUptoRow, standIns := [], harness := (true, "2c82b48165a424c97930f8603d7290267aff93dfa4f7a6d913fa3530b7aebf1f"), looks := true }, kinds := [], alts := [], laidByText := true, laidKinds := [.handle], laidTests := true, laidLooks := .later }
def RetrySaysUptoCardSaid : Prop := Claim7.holds Tryd.pinned (.plain (OpenSpec.upto retrySaysSpec)) retrySaysUptoCard
end Rows
end Go.Proofs.YteggajhpjdidcaaDoor
