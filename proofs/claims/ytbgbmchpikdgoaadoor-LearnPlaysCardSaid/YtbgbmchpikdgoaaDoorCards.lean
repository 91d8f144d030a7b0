/-
  DERIVED. GIVEN WITH THE SEED: THE CARDS: each row of YtbgbmchpikdgoaaDoorRows.lean that lists a variable, with what it lists TIED to the program's text (the seventh form; the later family's looks); each row that meets fmt, with fmt's text TOLD by the authors' own Lean function (tested against real Go, not proved from fmt's source: count such statements apart). THE CARD IS WHAT COUNTS. Prove the row's statement (the work); the ties are given (YtbgbmchpikdgoaaDoorTie.lean); close each card by the builder's one call (the guide's Derived/Test/ToyasCard.lean, 'card_holds'). Laid BY PROGRAM, IN A SANDBOX (cutbox-door.mjs). By AI agents, Wed Nov 11 2026. No macro, syntax, notation, axiom, sorry.
-/
import Derived.Test.YtbgbmchpikdgoaaDoorRows
import GoSem.ClaimSeven
namespace Go.Proofs.YtbgbmchpikdgoaaDoor
namespace Rows

/-- THE TIED CARD OF 'ferryhythelaw3.LearnForgets'. -/
def learnForgetsCard : Claim7 := { stood := { row := learnForgetsRow, standIns := [], harness := (true, "3af6f07647748161143c630b6c29a9a904cdbc85659942bcfa4e1441810a0ad6"), looks := true }, kinds := [], alts := [], laidByText := true, laidKinds := [.handle], laidTests := true, laidLooks := .later }
def LearnForgetsCardSaid : Prop := Claim7.holds Tryd.pinned (.plain (OpenSpec.ofChange learnForgetsSpec)) learnForgetsCard

/-- THE TIED CARD OF 'ferryhythelaw3.LearnPlays'. -/
def learnPlaysCard : Claim7 := { stood := { row := learnPlaysRow, standIns := [], harness := (true, "3af6f07647748161143c630b6c29a9a904cdbc85659942bcfa4e1441810a0ad6"), looks := true }, kinds := [], alts := [], laidByText := true, laidKinds := [.handle], laidTests := true, laidLooks := .later }
def LearnPlaysCardSaid : Prop := Claim7.holds Tryd.pinned (.plain (OpenSpec.ofChange learnPlaysSpec)) learnPlaysCard

/-- THE SECOND FORM's CARD OF 'ferryhythelaw3.LearnForgets'. -/
def learnForgetsUptoCard : Claim7 := { stood := { row := learnForgetsUptoRow, standIns := [], harness := (true, "3af6f07647748161143c630b6c29a9a904cdbc85659942bcfa4e1441810a0ad6"), looks := true }, kinds := [], alts := [], laidByText := true, laidKinds := [.handle], laidTests := true, laidLooks := .later }
def LearnForgetsUptoCardSaid : Prop := Claim7.holds Tryd.pinned (.plain (OpenSpec.upto learnForgetsSpec)) learnForgetsUptoCard

/-- THE SECOND FORM's CARD OF 'ferryhythelaw3.LearnPlays'. -/
def learnPlaysUptoCard : Claim7 := { stood := { row := learnPlaysUptoRow, standIns := [], harness := (true, "3af6f07647748161143c630b6c29a9a904cdbc85659942bcfa4e1441810a0ad6"), looks := true }, kinds := [], alts := [], laidByText := true, laidKinds := [.handle], laidTests := true, laidLooks := .later }
def LearnPlaysUptoCardSaid : Prop := Claim7.holds Tryd.pinned (.plain (OpenSpec.upto learnPlaysSpec)) learnPlaysUptoCard
end Rows
end Go.Proofs.YtbgbmchpikdgoaaDoor
