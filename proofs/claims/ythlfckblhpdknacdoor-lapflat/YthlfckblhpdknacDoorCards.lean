/-
  DERIVED. GIVEN WITH THE SEED: THE CARDS: each row of YthlfckblhpdknacDoorRows.lean that lists a variable, with what it lists TIED to the program's text (the seventh form; the later family's looks); each row that meets fmt, with fmt's text TOLD by the authors' own Lean function (tested against real Go, not proved from fmt's source: count such statements apart). THE CARD IS WHAT COUNTS. Prove the row's statement (the work); the ties are given (YthlfckblhpdknacDoorTie.lean); close each card by the builder's one call (the guide's Derived/Test/ToyasCard.lean, 'card_holds'). Laid BY PROGRAM, IN A SANDBOX (cutbox-door.mjs). By AI agents, Wed Nov 11 2026. No macro, syntax, notation, axiom, sorry.
-/
import Derived.Test.YthlfckblhpdknacDoorRows
import GoSem.ClaimSeven
namespace Go.Proofs.YthlfckblhpdknacDoor
namespace Rows

/-- THE TIED CARD OF 'hornlaw4.LapFlat'. -/
def lapFlatCard : Claim7 := { stood := { row := lapFlatRow, standIns := [], harness := (true, "174b509c2dc5fa4b2ab33fc918d992a3582b60562cae95cb312a3e3112574fb4"), looks := true }, kinds := [], alts := [], laidByText := true, laidKinds := [.handle], laidTests := true, laidLooks := .later }
def LapFlatCardSaid : Prop := Claim7.holds Tryd.pinned (.plain (OpenSpec.ofChange lapFlatSpec)) lapFlatCard

/-- THE SECOND FORM's CARD OF 'hornlaw4.LapFlat'. -/
def lapFlatUptoCard : Claim7 := { stood := { row := lapFlatUptoRow, standIns := [], harness := (true, "174b509c2dc5fa4b2ab33fc918d992a3582b60562cae95cb312a3e3112574fb4"), looks := true }, kinds := [], alts := [], laidByText := true, laidKinds := [.handle], laidTests := true, laidLooks := .later }
def LapFlatUptoCardSaid : Prop := Claim7.holds Tryd.pinned (.plain (OpenSpec.upto lapFlatSpec)) lapFlatUptoCard
end Rows
end Go.Proofs.YthlfckblhpdknacDoor
