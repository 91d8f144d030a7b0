/-
  DERIVED. GIVEN WITH THE SEED: THE CARDS: each row of YthjhlemdmahlnaaDoorRows.lean that lists a variable, with what it lists TIED to the program's text (the seventh form; the later family's looks); each row that meets fmt, with fmt's text TOLD by the authors' own Lean function (tested against real Go, not proved from fmt's source: count such statements apart). THE CARD IS WHAT COUNTS. Prove the row's statement (the work); the ties are given (YthjhlemdmahlnaaDoorTie.lean); close each card by the builder's one call (the guide's Derived/Test/ToyasCard.lean, 'card_holds'). Laid BY PROGRAM, IN A SANDBOX (cutbox-door.mjs). By AI agents, Wed Nov 11 2026. No macro, syntax, notation, axiom, sorry.
-/
import Derived.Test.YthjhlemdmahlnaaDoorRows
import GoSem.ClaimSeven
namespace Go.Proofs.YthjhlemdmahlnaaDoor
namespace Rows

/-- THE TIED CARD OF 'ferryhythelaw3.StpSays'. -/
def stpSaysCard : Claim7 := { stood := { row := stpSaysRow, standIns := [], harness := (true, "84857ff16fc6f0e62a3465d6fe69babbb1072456ded06c2052f27e240a41a67a"), looks := true }, kinds := [], alts := [], laidByText := true, laidKinds := [.handle], laidTests := true, laidLooks := .later }
def StpSaysCardSaid : Prop := Claim7.holds Tryd.pinned (.plain (OpenSpec.ofChange stpSaysSpec)) stpSaysCard

/-- THE SECOND FORM's CARD OF 'ferryhythelaw3.StpSays'. -/
def stpSaysUptoCard : Claim7 := { stood := { row := stpSaysUptoRow, standIns := [], harness := (true, "84857ff16fc6f0e62a3465d6fe69babbb1072456ded06c2052f27e240a41a67a"), looks := true }, kinds := [], alts := [], laidByText := true, laidKinds := [.handle], laidTests := true, laidLooks := .later }
def StpSaysUptoCardSaid : Prop := Claim7.holds Tryd.pinned (.plain (OpenSpec.upto stpSaysSpec)) stpSaysUptoCard
end Rows
end Go.Proofs.YthjhlemdmahlnaaDoor
