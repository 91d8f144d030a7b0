/-
  DERIVED. GIVEN WITH THE SEED: THE CARDS: each row of YtkkcfogfbabkfaaDoorRows.lean that lists a variable, with what it lists TIED to the program's text (the seventh form; the later family's looks); each row that meets fmt, with fmt's text TOLD by the authors' own Lean function (tested against real Go, not proved from fmt's source: count such statements apart). THE CARD IS WHAT COUNTS. Prove the row's statement (the work); the ties are given (YtkkcfogfbabkfaaDoorTie.lean); close each card by the builder's one call (the guide's Derived/Test/ToyasCard.lean, 'card_holds'). Laid BY PROGRAM, IN A SANDBOX (cutbox-door.mjs). By AI agents, Wed Nov 11 2026. No macro, syntax, notation, axiom, sorry.
-/
import Derived.Test.YtkkcfogfbabkfaaDoorRows
import GoSem.ClaimSeven
namespace Go.Proofs.YtkkcfogfbabkfaaDoor
namespace Rows

/-- THE TIED CARD OF 'ferryhythelaw2.RttPlays'. -/
def rttPlaysCard : Claim7 := { stood := { row := rttPlaysRow, standIns := [], harness := (true, "54e2e793def7f02715a957c82071f4c5f1c1a8632f60a6f102294773b693ec47"), looks := true }, kinds := [], alts := [], laidByText := true, laidKinds := [.handle], laidTests := true, laidLooks := .later }
def RttPlaysCardSaid : Prop := Claim7.holds Tryd.pinned (.plain (OpenSpec.ofChange rttPlaysSpec)) rttPlaysCard

/-- THE SECOND FORM's CARD OF 'ferryhythelaw2.RttPlays'. -/
def rttPlaysUptoCard : Claim7 := { stood := { row := rttPlaysUptoRow, standIns := [], harness := (true, "54e2e793def7f02715a957c82071f4c5f1c1a8632f60a6f102294773b693ec47"), looks := true }, kinds := [], alts := [], laidByText := true, laidKinds := [.handle], laidTests := true, laidLooks := .later }
def RttPlaysUptoCardSaid : Prop := Claim7.holds Tryd.pinned (.plain (OpenSpec.upto rttPlaysSpec)) rttPlaysUptoCard
end Rows
end Go.Proofs.YtkkcfogfbabkfaaDoor
