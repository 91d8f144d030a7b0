/-
  DERIVED. GIVEN WITH THE SEED: THE CARDS: each row of YthicejpgfmhimaaDoorRows.lean that lists a variable, with what it lists TIED to the program's text (the seventh form; the later family's looks); each row that meets fmt, with fmt's text TOLD by the authors' own Lean function (tested against real Go, not proved from fmt's source: count such statements apart). THE CARD IS WHAT COUNTS. Prove the row's statement (the work); the ties are given (YthicejpgfmhimaaDoorTie.lean); close each card by the builder's one call (the guide's Derived/Test/ToyasCard.lean, 'card_holds'). Laid BY PROGRAM, IN A SANDBOX (cutbox-door.mjs). By AI agents, Wed Nov 11 2026. No macro, syntax, notation, axiom, sorry.
-/
import Derived.Test.YthicejpgfmhimaaDoorRows
import GoSem.ClaimSeven
namespace Go.Proofs.YthicejpgfmhimaaDoor
namespace Rows

/-- THE TIED CARD OF 'ferryhythelaw3.SpfSays'. -/
def spfSaysCard : Claim7 := { stood := { row := spfSaysRow, standIns := [], harness := (true, "6d7b91393fae4c280b5c80aedbb915c5c2968c43ead5cc8d07529420eae031cd"), looks := true }, kinds := [], alts := [], laidByText := true, laidKinds := [.handle], laidTests := true, laidLooks := .later }
def SpfSaysCardSaid : Prop := Claim7.holds Tryd.pinned (.plain (OpenSpec.ofChange spfSaysSpec)) spfSaysCard

/-- THE SECOND FORM's CARD OF 'ferryhythelaw3.SpfSays'. -/
def spfSaysUptoCard : Claim7 := { stood := { row := spfSaysUptoRow, standIns := [], harness := (true, "6d7b91393fae4c280b5c80aedbb915c5c2968c43ead5cc8d07529420eae031cd"), looks := true }, kinds := [], alts := [], laidByText := true, laidKinds := [.handle], laidTests := true, laidLooks := .later }
def SpfSaysUptoCardSaid : Prop := Claim7.holds Tryd.pinned (.plain (OpenSpec.upto spfSaysSpec)) spfSaysUptoCard
end Rows
end Go.Proofs.YthicejpgfmhimaaDoor
