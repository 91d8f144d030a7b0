/-
  DERIVED. GIVEN WITH THE SEED: THE CARDS: each row of YtbjoabggdhndmaaDoorRows.lean that lists a variable, with what it lists TIED to the program's text (the seventh form; the later family's looks); each row that meets fmt, with fmt's text TOLD by the authors' own Lean function (tested against real Go, not proved from fmt's source: count such statements apart). THE CARD IS WHAT COUNTS. Prove the row's statement (the work); the ties are given (YtbjoabggdhndmaaDoorTie.lean); close each card by the builder's one call (the guide's Derived/Test/ToyasCard.lean, 'card_holds'). Laid BY PROGRAM, IN A SANDBOX (cutbox-door.mjs). By AI agents, Wed Nov 11 2026. No macro, syntax, notation, axiom, sorry.
-/
import Derived.Test.YtbjoabggdhndmaaDoorRows
import GoSem.ClaimSeven
namespace Go.Proofs.YtbjoabggdhndmaaDoor
namespace Rows

/-- THE TIED CARD OF 'ferryhythelaw2.AimdSays'. -/
def aimdSaysCard : Claim7 := { stood := { row := aimdSaysRow, standIns := [], harness := (true, "93baf8d18648576184d92a0edacdedfb23153e206d1864ef7871f80abc674db9"), looks := true }, kinds := [], alts := [], laidByText := true, laidKinds := [.handle], laidTests := true, laidLooks := .later }
def AimdSaysCardSaid : Prop := Claim7.holds Tryd.pinned (.plain (OpenSpec.ofChange aimdSaysSpec)) aimdSaysCard

/-- THE SECOND FORM's CARD OF 'ferryhythelaw2.AimdSays'. -/
def aimdSaysUptoCard : Claim7 := { stood := { row := aimdSaysUptoRow, standIns := [], harness := (true, "93baf8d18648576184d92a0edacdedfb23153e206d1864ef7871f80abc674db9"), looks := true }, kinds := [], alts := [], laidByText := true, laidKinds := [.handle], laidTests := true, laidLooks := .later }
def AimdSaysUptoCardSaid : Prop := Claim7.holds Tryd.pinned (.plain (OpenSpec.upto aimdSaysSpec)) aimdSaysUptoCard
end Rows
end Go.Proofs.YtbjoabggdhndmaaDoor
