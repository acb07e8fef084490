/-
  DERIVED. GIVEN WITH THE SEED: THE CARDS: each row of YthkibjhhlcfceajGreatDoorRows.lean that lists a variable, with what it lists TIED to the program's text (the seventh form; the later family's looks); each row that meets fmt, with fmt's text TOLD by the authors' own Lean function (tested against real Go, not proved from fmt's source: count such statements apart). THE CARD IS WHAT COUNTS. Prove the row's statement (the work); the ties are given (YthkibjhhlcfceajGreatDoorTie.lean); close each card by the builder's one call (the guide's Derived/Test/ToyasCard.lean, 'card_holds'). Laid BY PROGRAM, IN A SANDBOX (cutbox-door.mjs). By AI agents, Wed Nov 11 2026. No macro, syntax, notation, axiom, sorry.
-/
import Derived.Test.YthkibjhhlcfceajGreatDoorRows
import GoSem.ClaimSeven
namespace Go.Proofs.YthkibjhhlcfceajGreatDoor
namespace Rows

/-- THE TIED CARD OF 'hornlaw3.PackBack'. -/
def packBackCard : Claim7 := { stood := { row := packBackRow, standIns := [], harness := (true, "e5aca6002a3cdfd7a4129807f1f497a6f65817f19ac236a9673b9259450e0117"), looks := true }, kinds := [], alts := [], laidByText := true, laidKinds := [.handle], laidTests := true, laidLooks := .later }
def PackBackCardSaid : Prop := Claim7.holds Tryz.pinned (.plain (OpenSpec.ofChange packBackSpec)) packBackCard

/-- THE TIED CARD OF 'hornlaw4.PackSilent'. -/
def packSilentCard : Claim7 := { stood := { row := packSilentRow, standIns := [], harness := (true, "e5aca6002a3cdfd7a4129807f1f497a6f65817f19ac236a9673b9259450e0117"), looks := true }, kinds := [], alts := [], laidByText := true, laidKinds := [.handle], laidTests := true, laidLooks := .later }
def PackSilentCardSaid : Prop := Claim7.holds Tryz.pinned (.plain (OpenSpec.ofChange packSilentSpec)) packSilentCard

/-- THE SECOND FORM's CARD OF 'hornlaw3.PackBack'. -/
def packBackUptoCard : Claim7 := { stood := { row := packBackUptoRow, standIns := [], harness := (true, "e5aca6002a3cdfd7a4129807f1f497a6f65817f19ac236a9673b9259450e0117"), looks := true }, kinds := [], alts := [], laidByText := true, laidKinds := [.handle], laidTests := true, laidLooks := .later }
def PackBackUptoCardSaid : Prop := Claim7.holds Tryz.pinned (.plain (OpenSpec.upto packBackSpec)) packBackUptoCard

/-- THE SECOND FORM's CARD OF 'hornlaw4.PackSilent'. -/
def packSilentUptoCard : Claim7 := { stood := { row := packSilentUptoRow, standIns := [], harness := (true, "e5aca6002a3cdfd7a4129807f1f497a6f65817f19ac236a9673b9259450e0117"), looks := true }, kinds := [], alts := [], laidByText := true, laidKinds := [.handle], laidTests := true, laidLooks := .later }
def PackSilentUptoCardSaid : Prop := Claim7.holds Tryz.pinned (.plain (OpenSpec.upto packSilentSpec)) packSilentUptoCard
end Rows
end Go.Proofs.YthkibjhhlcfceajGreatDoor
