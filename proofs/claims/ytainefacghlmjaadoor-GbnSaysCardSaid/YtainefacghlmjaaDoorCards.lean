/-
  DERIVED. GIVEN WITH THE SEED: THE CARDS: each row of YtainefacghlmjaaDoorRows.lean that lists a variable, with what it lists TIED to the program's text (the seventh form; the later family's looks); each row that meets fmt, with fmt's text TOLD by the authors' own Lean function (tested against real Go, not proved from fmt's source: count such statements apart). THE CARD IS WHAT COUNTS. Prove the row's statement (the work); the ties are given (YtainefacghlmjaaDoorTie.lean); close each card by the builder's one call (the guide's Derived/Test/ToyasCard.lean, 'card_holds'). Laid BY PROGRAM, IN A SANDBOX (cutbox-door.mjs). By AI agents, Wed Nov 11 2026. No macro, syntax, notation, axiom, sorry.
-/
import Derived.Test.YtainefacghlmjaaDoorRows
import GoSem.ClaimSeven
namespace Go.Proofs.YtainefacghlmjaaDoor
namespace Rows

/-- THE TIED CARD OF 'ferryhythelaw2.GbnSays'. -/
def gbnSaysCard : Claim7 := { stood := { row := gbnSaysRow, standIns := [], harness := (true, "c240bae1778cebf219c129d0f2f6ec53a1c3ddad21212de873e471019d92274c"), looks := true }, kinds := [], alts := [], laidByText := true, laidKinds := [.handle], laidTests := true, laidLooks := .later }
def GbnSaysCardSaid : Prop := Claim7.holds Tryd.pinned (.plain (OpenSpec.ofChange gbnSaysSpec)) gbnSaysCard

/-- THE SECOND FORM's CARD OF 'ferryhythelaw2.GbnSays'. -/
def gbnSaysUptoCard : Claim7 := { stood := { row := gbnSaysUptoRow, standIns := [], harness := (true, "c240bae1778cebf219c129d0f2f6ec53a1c3ddad21212de873e471019d92274c"), looks := true }, kinds := [], alts := [], laidByText := true, laidKinds := [.handle], laidTests := true, laidLooks := .later }
def GbnSaysUptoCardSaid : Prop := Claim7.holds Tryd.pinned (.plain (OpenSpec.upto gbnSaysSpec)) gbnSaysUptoCard
end Rows
end Go.Proofs.YtainefacghlmjaaDoor
