/-
  DERIVED. GIVEN WITH THE SEED: THE CARDS: each row of YtjphjmgjhnpnjaaDoorRows.lean that lists a variable, with what it lists TIED to the program's text (the seventh form; the later family's looks); each row that meets fmt, with fmt's text TOLD by the authors' own Lean function (tested against real Go, not proved from fmt's source: count such statements apart). THE CARD IS WHAT COUNTS. Prove the row's statement (the work); the ties are given (YtjphjmgjhnpnjaaDoorTie.lean); close each card by the builder's one call (the guide's Derived/Test/ToyasCard.lean, 'card_holds'). Laid BY PROGRAM, IN A SANDBOX (cutbox-door.mjs). By AI agents, Wed Nov 11 2026. No macro, syntax, notation, axiom, sorry.
-/
import Derived.Test.YtjphjmgjhnpnjaaDoorRows
import GoSem.ClaimSeven
namespace Go.Proofs.YtjphjmgjhnpnjaaDoor
namespace Rows

/-- THE TIED CARD OF 'ferryhythelaw2.AbpSays'. -/
def abpSaysCard : Claim7 := { stood := { row := abpSaysRow, standIns := [], harness := (true, "87eb16badbe9568ca2f2b442a4dacd99491bb04df557bb2e6918e5a718d6206f"), looks := true }, kinds := [], alts := [], laidByText := true, laidKinds := [.handle], laidTests := true, laidLooks := .later }
def AbpSaysCardSaid : Prop := Claim7.holds Tryd.pinned (.plain (OpenSpec.ofChange abpSaysSpec)) abpSaysCard

/-- THE SECOND FORM's CARD OF 'ferryhythelaw2.AbpSays'. -/
def abpSaysUptoCard : Claim7 := { stood := { row := abpSaysUptoRow, standIns := [], harness := (true, "87eb16badbe9568ca2f2b442a4dacd99491bb04df557bb2e6918e5a718d6206f"), looks := true }, kinds := [], alts := [], laidByText := true, laidKinds := [.handle], laidTests := true, laidLooks := .later }
def AbpSaysUptoCardSaid : Prop := Claim7.holds Tryd.pinned (.plain (OpenSpec.upto abpSaysSpec)) abpSaysUptoCard
end Rows
end Go.Proofs.YtjphjmgjhnpnjaaDoor
