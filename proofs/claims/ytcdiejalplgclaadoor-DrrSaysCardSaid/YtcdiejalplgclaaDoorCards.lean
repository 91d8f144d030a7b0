/-
  DERIVED. GIVEN WITH THE SEED: THE CARDS: each row of YtcdiejalplgclaaDoorRows.lean that lists a variable, with what it lists TIED to the program's text (the seventh form; the later family's looks); each row that meets fmt, with fmt's text TOLD by the authors' own Lean function (tested against real Go, not proved from fmt's source: count such statements apart). THE CARD IS WHAT COUNTS. Prove the row's statement (the work); the ties are given (YtcdiejalplgclaaDoorTie.lean); close each card by the builder's one call (the guide's Derived/Test/ToyasCard.lean, 'card_holds'). Laid BY PROGRAM, IN A SANDBOX (cutbox-door.mjs). By AI agents, Wed Nov 11 2026. No macro, syntax, notation, axiom, sorry.
-/
import Derived.Test.YtcdiejalplgclaaDoorRows
import GoSem.ClaimSeven
namespace Go.Proofs.YtcdiejalplgclaaDoor
namespace Rows

/-- THE TIED CARD OF 'ferryhythelaw3.DrrSays'. -/
def drrSaysCard : Claim7 := { stood := { row := drrSaysRow, standIns := [], harness := (true, "7ce5ba76612eb844d30dc92b33a3ca10fcab8bc73927195401e1dcbc990386b4"), looks := true }, kinds := [], alts := [], laidByText := true, laidKinds := [.handle], laidTests := true, laidLooks := .later }
def DrrSaysCardSaid : Prop := Claim7.holds Tryd.pinned (.plain (OpenSpec.ofChange drrSaysSpec)) drrSaysCard

/-- THE SECOND FORM's CARD OF 'ferryhythelaw3.DrrSays'. -/
def drrSaysUptoCard : Claim7 := { stood := { row := drrSaysUptoRow, standIns := [], harness := (true, "7ce5ba76612eb844d30dc92b33a3ca10fcab8bc73927195401e1dcbc990386b4"), looks := true }, kinds := [], alts := [], laidByText := true, laidKinds := [.handle], laidTests := true, laidLooks := .later }
def DrrSaysUptoCardSaid : Prop := Claim7.holds Tryd.pinned (.plain (OpenSpec.upto drrSaysSpec)) drrSaysUptoCard
end Rows
end Go.Proofs.YtcdiejalplgclaaDoor
