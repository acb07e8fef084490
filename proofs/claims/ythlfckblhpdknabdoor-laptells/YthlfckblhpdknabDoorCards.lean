/-
  DERIVED. GIVEN WITH THE SEED: THE CARDS: each row of YthlfckblhpdknabDoorRows.lean that lists a variable, with what it lists TIED to the program's text (the seventh form; the later family's looks); each row that meets fmt, with fmt's text TOLD by the authors' own Lean function (tested against real Go, not proved from fmt's source: count such statements apart). THE CARD IS WHAT COUNTS. Prove the row's statement (the work); the ties are given (YthlfckblhpdknabDoorTie.lean); close each card by the builder's one call (the guide's Derived/Test/ToyasCard.lean, 'card_holds'). Laid BY PROGRAM, IN A SANDBOX (cutbox-door.mjs). By AI agents, Wed Nov 11 2026. No macro, syntax, notation, axiom, sorry.
-/
import Derived.Test.YthlfckblhpdknabDoorRows
import GoSem.ClaimSeven
namespace Go.Proofs.YthlfckblhpdknabDoor
namespace Rows

/-- THE TIED CARD OF 'hornlaw1.TreeTells'. -/
def treeTellsCard : Claim7 := { stood := { row := treeTellsRow, standIns := [], harness := (true, "04f8c9fda1c57d35630993546df7516b44b96230512c66e7b05d79d4d2fdd8eb"), looks := true }, kinds := [], alts := [], laidByText := true, laidKinds := [.handle], laidTests := true, laidLooks := .later }
def TreeTellsCardSaid : Prop := Claim7.holds Tryd.pinned (.plain (OpenSpec.ofChange treeTellsSpec)) treeTellsCard

/-- THE TIED CARD OF 'hornlaw1.LapTells'. -/
def lapTellsCard : Claim7 := { stood := { row := lapTellsRow, standIns := [], harness := (true, "04f8c9fda1c57d35630993546df7516b44b96230512c66e7b05d79d4d2fdd8eb"), looks := true }, kinds := [], alts := [], laidByText := true, laidKinds := [.handle], laidTests := true, laidLooks := .later }
def LapTellsCardSaid : Prop := Claim7.holds Tryd.pinned (.plain (OpenSpec.ofChange lapTellsSpec)) lapTellsCard

/-- THE SECOND FORM's CARD OF 'hornlaw1.TreeTells'. -/
def treeTellsUptoCard : Claim7 := { stood := { row := treeTellsUptoRow, standIns := [], harness := (true, "04f8c9fda1c57d35630993546df7516b44b96230512c66e7b05d79d4d2fdd8eb"), looks := true }, kinds := [], alts := [], laidByText := true, laidKinds := [.handle], laidTests := true, laidLooks := .later }
def TreeTellsUptoCardSaid : Prop := Claim7.holds Tryd.pinned (.plain (OpenSpec.upto treeTellsSpec)) treeTellsUptoCard

/-- THE SECOND FORM's CARD OF 'hornlaw1.LapTells'. -/
def lapTellsUptoCard : Claim7 := { stood := { row := lapTellsUptoRow, standIns := [], harness := (true, "04f8c9fda1c57d35630993546df7516b44b96230512c66e7b05d79d4d2fdd8eb"), looks := true }, kinds := [], alts := [], laidByText := true, laidKinds := [.handle], laidTests := true, laidLooks := .later }
def LapTellsUptoCardSaid : Prop := Claim7.holds Tryd.pinned (.plain (OpenSpec.upto lapTellsSpec)) lapTellsUptoCard
end Rows
end Go.Proofs.YthlfckblhpdknabDoor
