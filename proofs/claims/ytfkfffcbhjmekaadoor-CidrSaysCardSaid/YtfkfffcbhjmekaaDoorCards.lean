/-
  DERIVED. GIVEN WITH THE SEED: THE CARDS: each row of YtfkfffcbhjmekaaDoorRows.lean that lists a variable, with what it lists TIED to the program's text (the seventh form; the later family's looks); each row that meets fmt, with fmt's text TOLD by the authors' own Lean function (tested against real Go, not proved from fmt's source: count such statements apart). THE CARD IS WHAT COUNTS. Prove the row's statement (the work); the ties are given (YtfkfffcbhjmekaaDoorTie.lean); close each card by the builder's one call (the guide's Derived/Test/ToyasCard.lean, 'card_holds'). Laid BY PROGRAM, IN A SANDBOX (cutbox-door.mjs). By AI agents, Wed Nov 11 2026. No macro, syntax, notation, axiom, sorry.
-/
import Derived.Test.YtfkfffcbhjmekaaDoorRows
import GoSem.ClaimSeven
namespace Go.Proofs.YtfkfffcbhjmekaaDoor
namespace Rows

/-- THE TIED CARD OF 'ferryhythelaw1.CidrSays'. -/
def cidrSaysCard : Claim7 := { stood := { row := cidrSaysRow, standIns := [], harness := (true, "f7865ccb2e5073ece8660240db314eb13f400934d6d96a69459f1d56a04d99be"), looks := true }, kinds := [], alts := [], laidByText := true, laidKinds := [.handle], laidTests := true, laidLooks := .later }
def CidrSaysCardSaid : Prop := Claim7.holds Tryd.pinned (.plain (OpenSpec.ofChange cidrSaysSpec)) cidrSaysCard

/-- THE SECOND FORM's CARD OF 'ferryhythelaw1.CidrSays'. -/
def cidrSaysUptoCard : Claim7 := { stood := { row := cidrSaysUptoRow, standIns := [], harness := (true, "f7865ccb2e5073ece8660240db314eb13f400934d6d96a69459f1d56a04d99be"), looks := true }, kinds := [], alts := [], laidByText := true, laidKinds := [.handle], laidTests := true, laidLooks := .later }
def CidrSaysUptoCardSaid : Prop := Claim7.holds Tryd.pinned (.plain (OpenSpec.upto cidrSaysSpec)) cidrSaysUptoCard
end Rows
end Go.Proofs.YtfkfffcbhjmekaaDoor
