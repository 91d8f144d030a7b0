/-
  DERIVED. GIVEN WITH THE SEED: THE CARDS: each row of YtckfobkkjiiheaaDoorRows.lean that lists a variable, with what it lists TIED to the program's text (the seventh form; the later family's looks); each row that meets fmt, with fmt's text TOLD by the authors' own Lean function (tested against real Go, not proved from fmt's source: count such statements apart). THE CARD IS WHAT COUNTS. Prove the row's statement (the work); the ties are given (YtckfobkkjiiheaaDoorTie.lean); close each card by the builder's one call (the guide's Derived/Test/ToyasCard.lean, 'card_holds'). Laid BY PROGRAM, IN A SANDBOX (cutbox-door.mjs). By AI agents, Wed Nov 11 2026. No macro, syntax, notation, axiom, sorry.
-/
import Derived.Test.YtckfobkkjiiheaaDoorRows
import GoSem.ClaimSeven
namespace Go.Proofs.YtckfobkkjiiheaaDoor
namespace Rows

/-- THE TIED CARD OF 'ferryhythelaw4.RingSays'. -/
def ringSaysCard : Claim7 := { stood := { row := ringSaysRow, standIns := [], harness := (true, "c2c384a387ccd9d71ff3e3ffbe5c3ef397eddf4a990026a33c7f03604b2df6c6"), looks := true }, kinds := [], alts := [], laidByText := true, laidKinds := [.handle], laidTests := true, laidLooks := .later }
def RingSaysCardSaid : Prop := Claim7.holds Tryd.pinned (.plain (OpenSpec.ofChange ringSaysSpec)) ringSaysCard

/-- THE SECOND FORM's CARD OF 'ferryhythelaw4.RingSays'. -/
def ringSaysUptoCard : Claim7 := { stood := { row := ringSaysUptoRow, standIns := [], harness := (true, "c2c384a387ccd9d71ff3e3ffbe5c3ef397eddf4a990026a33c7f03604b2df6c6"), looks := true }, kinds := [], alts := [], laidByText := true, laidKinds := [.handle], laidTests := true, laidLooks := .later }
def RingSaysUptoCardSaid : Prop := Claim7.holds Tryd.pinned (.plain (OpenSpec.upto ringSaysSpec)) ringSaysUptoCard
end Rows
end Go.Proofs.YtckfobkkjiiheaaDoor
