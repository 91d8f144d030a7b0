/-
  DERIVED. GIVEN WITH THE SEED: THE CARDS: each row of YtlnnejgahiiknaaDoorRows.lean that lists a variable, with what it lists TIED to the program's text (the seventh form; the later family's looks); each row that meets fmt, with fmt's text TOLD by the authors' own Lean function (tested against real Go, not proved from fmt's source: count such statements apart). THE CARD IS WHAT COUNTS. Prove the row's statement (the work); the ties are given (YtlnnejgahiiknaaDoorTie.lean); close each card by the builder's one call (the guide's Derived/Test/ToyasCard.lean, 'card_holds'). Laid BY PROGRAM, IN A SANDBOX (cutbox-door.mjs). By AI agents, Wed Nov 11 2026. No macro, syntax, notation, axiom, sorry.
-/
import Derived.Test.YtlnnejgahiiknaaDoorRows
import GoSem.ClaimSeven
namespace Go.Proofs.YtlnnejgahiiknaaDoor
namespace Rows

/-- THE TIED CARD OF 'ferryhythelaw2.GcraPlays'. -/
def gcraPlaysCard : Claim7 := { stood := { row := gcraPlaysRow, standIns := [], harness := (true, "d5a5d8275c38619bc51ab0b7be16459633a27fa8d950653fac488b26fbee2882"), looks := true }, kinds := [], alts := [], laidByText := true, laidKinds := [.handle], laidTests := true, laidLooks := .later }
def GcraPlaysCardSaid : Prop := Claim7.holds Tryd.pinned (.plain (OpenSpec.ofChange gcraPlaysSpec)) gcraPlaysCard

/-- THE SECOND FORM's CARD OF 'ferryhythelaw2.GcraPlays'. -/
def gcraPlaysUptoCard : Claim7 := { stood := { row := gcraPlaysUptoRow, standIns := [], harness := (true, "d5a5d8275c38619bc51ab0b7be16459633a27fa8d950653fac488b26fbee2882"), looks := true }, kinds := [], alts := [], laidByText := true, laidKinds := [.handle], laidTests := true, laidLooks := .later }
def GcraPlaysUptoCardSaid : Prop := Claim7.holds Tryd.pinned (.plain (OpenSpec.upto gcraPlaysSpec)) gcraPlaysUptoCard
end Rows
end Go.Proofs.YtlnnejgahiiknaaDoor
