/-
  DERIVED. GIVEN WITH THE SEED: THE CARDS: each row of YtcdpkdhapdajgaaDoorRows.lean that lists a variable, with what it lists TIED to the program's text (the seventh form; the later family's looks); each row that meets fmt, with fmt's text TOLD by the authors' own Lean function (tested against real Go, not proved from fmt's source: count such statements apart). THE CARD IS WHAT COUNTS. Prove the row's statement (the work); the ties are given (YtcdpkdhapdajgaaDoorTie.lean); close each card by the builder's one call (the guide's Derived/Test/ToyasCard.lean, 'card_holds'). Laid BY PROGRAM, IN A SANDBOX (cutbox-door.mjs). By AI agents, Wed Nov 11 2026. No macro, syntax, notation, axiom, sorry.
-/
import Derived.Test.YtcdpkdhapdajgaaDoorRows
import GoSem.ClaimSeven
namespace Go.Proofs.YtcdpkdhapdajgaaDoor
namespace Rows

/-- THE TIED CARD OF 'ferryhythelaw1.OnesSays'. -/
def onesSaysCard : Claim7 := { stood := { row := onesSaysRow, standIns := [], harness := (true, "690ca7afea2eb19721b7caa319175faebde8cd31f6271c83edafb54cd55340a5"), looks := true }, kinds := [], alts := [], laidByText := true, laidKinds := [.handle], laidTests := true, laidLooks := .later }
def OnesSaysCardSaid : Prop := Claim7.holds Tryd.pinned (.plain (OpenSpec.ofChange onesSaysSpec)) onesSaysCard

/-- THE SECOND FORM's CARD OF 'ferryhythelaw1.OnesSays'. -/
def onesSaysUptoCard : Claim7 := { stood := { row := onesSaysUptoRow, standIns := [], harness := (true, "690ca7afea2eb19721b7caa319175faebde8cd31f6271c83edafb54cd55340a5"), looks := true }, kinds := [], alts := [], laidByText := true, laidKinds := [.handle], laidTests := true, laidLooks := .later }
def OnesSaysUptoCardSaid : Prop := Claim7.holds Tryd.pinned (.plain (OpenSpec.upto onesSaysSpec)) onesSaysUptoCard
end Rows
end Go.Proofs.YtcdpkdhapdajgaaDoor
