/-
  DERIVED. GIVEN WITH THE SEED: THE CARDS: each row of YtnodflcdijkdoacDoorRows.lean that lists a variable, with what it lists TIED to the program's text (the seventh form; the later family's looks); each row that meets fmt, with fmt's text TOLD by the authors' own Lean function (tested against real Go, not proved from fmt's source: count such statements apart). THE CARD IS WHAT COUNTS. Prove the row's statement (the work); the ties are given (YtnodflcdijkdoacDoorTie.lean); close each card by the builder's one call (the guide's Derived/Test/ToyasCard.lean, 'card_holds'). Laid BY PROGRAM, IN A SANDBOX (cutbox-door.mjs). By AI agents, Wed Nov 11 2026. No macro, syntax, notation, axiom, sorry.
-/
import Derived.Test.YtnodflcdijkdoacDoorRows
import GoSem.ClaimSeven
namespace Go.Proofs.YtnodflcdijkdoacDoor
namespace Rows

/-- THE TIED CARD OF 'hornlaw4.LapFlat'. -/
def lapFlatCard : Claim7 := { stood := { row := lapFlatRow, standIns := [], harness := (true, "67a0550db607c143d780d57fe0bf5bf213a08c844c6e5c8e8894158ddd148843"), looks := true }, kinds := [], alts := [], laidByText := true, laidKinds := [.handle], laidTests := true, laidLooks := .later }
def LapFlatCardSaid : Prop := Claim7.holds Tryd.pinned (.plain (OpenSpec.ofChange lapFlatSpec)) lapFlatCard

/-- THE TIED CARD OF 'hornlaw1.CountTells'. -/
def countTellsCard : Claim7 := { stood := { row := countTellsRow, standIns := [], harness := (true, "67a0550db607c143d780d57fe0bf5bf213a08c844c6e5c8e8894158ddd148843"), looks := true }, kinds := [], alts := [], laidByText := true, laidKinds := [.handle], laidTests := true, laidLooks := .later }
def CountTellsCardSaid : Prop := Claim7.holds Tryd.pinned (.plain (OpenSpec.ofChange countTellsSpec)) countTellsCard

/-- THE SECOND FORM's CARD OF 'hornlaw4.LapFlat'. -/
def lapFlatUptoCard : Claim7 := { stood := { row := lapFlatUptoRow, standIns := [], harness := (true, "67a0550db607c143d780d57fe0bf5bf213a08c844c6e5c8e8894158ddd148843"), looks := true }, kinds := [], alts := [], laidByText := true, laidKinds := [.handle], laidTests := true, laidLooks := .later }
def LapFlatUptoCardSaid : Prop := Claim7.holds Tryd.pinned (.plain (OpenSpec.upto lapFlatSpec)) lapFlatUptoCard

/-- THE SECOND FORM's CARD OF 'hornlaw1.CountTells'. -/
def countTellsUptoCard : Claim7 := { stood := { row := countTellsUptoRow, standIns := [], harness := (true, "67a0550db607c143d780d57fe0bf5bf213a08c844c6e5c8e8894158ddd148843"), looks := true }, kinds := [], alts := [], laidByText := true, laidKinds := [.handle], laidTests := true, laidLooks := .later }
def CountTellsUptoCardSaid : Prop := Claim7.holds Tryd.pinned (.plain (OpenSpec.upto countTellsSpec)) countTellsUptoCard
end Rows
end Go.Proofs.YtnodflcdijkdoacDoor
