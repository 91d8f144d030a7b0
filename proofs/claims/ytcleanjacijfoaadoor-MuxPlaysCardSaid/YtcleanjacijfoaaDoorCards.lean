/-
  DERIVED. GIVEN WITH THE SEED: THE CARDS: each row of YtcleanjacijfoaaDoorRows.lean that lists a variable, with what it lists TIED to the program's text (the seventh form; the later family's looks); each row that meets fmt, with fmt's text TOLD by the authors' own Lean function (tested against real Go, not proved from fmt's source: count such statements apart). THE CARD IS WHAT COUNTS. Prove the row's statement (the work); the ties are given (YtcleanjacijfoaaDoorTie.lean); close each card by the builder's one call (the guide's Derived/Test/ToyasCard.lean, 'card_holds'). Laid BY PROGRAM, IN A SANDBOX (cutbox-door.mjs). By AI agents, Wed Nov 11 2026. No macro, syntax, notation, axiom, sorry.
-/
import Derived.Test.YtcleanjacijfoaaDoorRows
import GoSem.ClaimSeven
namespace Go.Proofs.YtcleanjacijfoaaDoor
namespace Rows

/-- THE TIED CARD OF 'ferryhythelaw4.MuxClash'. -/
def muxClashCard : Claim7 := { stood := { row := muxClashRow, standIns := [], harness := (true, "d2d2dde20ce3c67d961fffe8d7ffeee6541a59de448ad0827a0866618f074fce"), looks := true }, kinds := [], alts := [], laidByText := true, laidKinds := [.handle], laidTests := true, laidLooks := .later }
def MuxClashCardSaid : Prop := Claim7.holds Tryd.pinned (.plain (OpenSpec.ofChange muxClashSpec)) muxClashCard

/-- THE TIED CARD OF 'ferryhythelaw4.MuxPlays'. -/
def muxPlaysCard : Claim7 := { stood := { row := muxPlaysRow, standIns := [], harness := (true, "d2d2dde20ce3c67d961fffe8d7ffeee6541a59de448ad0827a0866618f074fce"), looks := true }, kinds := [], alts := [], laidByText := true, laidKinds := [.handle], laidTests := true, laidLooks := .later }
def MuxPlaysCardSaid : Prop := Claim7.holds Tryd.pinned (.plain (OpenSpec.ofChange muxPlaysSpec)) muxPlaysCard

/-- THE SECOND FORM's CARD OF 'ferryhythelaw4.MuxClash'. -/
def muxClashUptoCard : Claim7 := { stood := { row := muxClashUptoRow, standIns := [], harness := (true, "d2d2dde20ce3c67d961fffe8d7ffeee6541a59de448ad0827a0866618f074fce"), looks := true }, kinds := [], alts := [], laidByText := true, laidKinds := [.handle], laidTests := true, laidLooks := .later }
def MuxClashUptoCardSaid : Prop := Claim7.holds Tryd.pinned (.plain (OpenSpec.upto muxClashSpec)) muxClashUptoCard

/-- THE SECOND FORM's CARD OF 'ferryhythelaw4.MuxPlays'. -/
def muxPlaysUptoCard : Claim7 := { stood := { row := muxPlaysUptoRow, standIns := [], harness := (true, "d2d2dde20ce3c67d961fffe8d7ffeee6541a59de448ad0827a0866618f074fce"), looks := true }, kinds := [], alts := [], laidByText := true, laidKinds := [.handle], laidTests := true, laidLooks := .later }
def MuxPlaysUptoCardSaid : Prop := Claim7.holds Tryd.pinned (.plain (OpenSpec.upto muxPlaysSpec)) muxPlaysUptoCard
end Rows
end Go.Proofs.YtcleanjacijfoaaDoor
