/-
  DERIVED. GIVEN WITH THE SEED: THE CARDS: each row of YtonbdongafbcdahDoorRows.lean that lists a variable, with what it lists TIED to the program's text (the seventh form; the later family's looks); each row that meets fmt, with fmt's text TOLD by the authors' own Lean function (tested against real Go, not proved from fmt's source: count such statements apart). THE CARD IS WHAT COUNTS. Prove the row's statement (the work); the ties are given (YtonbdongafbcdahDoorTie.lean); close each card by the builder's one call (the guide's Derived/Test/ToyasCard.lean, 'card_holds'). Laid BY PROGRAM, IN A SANDBOX (cutbox-door.mjs). By AI agents, Wed Nov 11 2026. No macro, syntax, notation, axiom, sorry.
-/
import Derived.Test.YtonbdongafbcdahDoorRows
import GoSem.ClaimSeven
namespace Go.Proofs.YtonbdongafbcdahDoor
namespace Rows

/-- THE TIED CARD OF 'hornlaw2.ShareTells'. -/
def shareTellsCard : Claim7 := { stood := { row := shareTellsRow, standIns := [], harness := (true, "a8b3ff58a09fc15e37592f670f12a78b7c7cc1d81ceb101a5521940034fe0578"), looks := true }, kinds := [], alts := [], laidByText := true, laidKinds := [.handle], laidTests := true, laidLooks := .later }
def ShareTellsCardSaid : Prop := Claim7.holds Tryd.pinned (.plain (OpenSpec.ofChange shareTellsSpec)) shareTellsCard

/-- THE TIED CARD OF 'hornlaw2.TankTells'. -/
def tankTellsCard : Claim7 := { stood := { row := tankTellsRow, standIns := [], harness := (true, "a8b3ff58a09fc15e37592f670f12a78b7c7cc1d81ceb101a5521940034fe0578"), looks := true }, kinds := [], alts := [], laidByText := true, laidKinds := [.handle], laidTests := true, laidLooks := .later }
def TankTellsCardSaid : Prop := Claim7.holds Tryd.pinned (.plain (OpenSpec.ofChange tankTellsSpec)) tankTellsCard

/-- THE TIED CARD OF 'hornlaw2.TankHolds'. -/
def tankHoldsCard : Claim7 := { stood := { row := tankHoldsRow, standIns := [], harness := (true, "a8b3ff58a09fc15e37592f670f12a78b7c7cc1d81ceb101a5521940034fe0578"), looks := true }, kinds := [], alts := [], laidByText := true, laidKinds := [.handle], laidTests := true, laidLooks := .later }
def TankHoldsCardSaid : Prop := Claim7.holds Tryd.pinned (.plain (OpenSpec.ofChange tankHoldsSpec)) tankHoldsCard

/-- THE SECOND FORM's CARD OF 'hornlaw2.ShareTells'. -/
def shareTellsUptoCard : Claim7 := { stood := { row := shareTellsUptoRow, standIns := [], harness := (true, "a8b3ff58a09fc15e37592f670f12a78b7c7cc1d81ceb101a5521940034fe0578"), looks := true }, kinds := [], alts := [], laidByText := true, laidKinds := [.handle], laidTests := true, laidLooks := .later }
def ShareTellsUptoCardSaid : Prop := Claim7.holds Tryd.pinned (.plain (OpenSpec.upto shareTellsSpec)) shareTellsUptoCard

/-- THE SECOND FORM's CARD OF 'hornlaw2.TankTells'. -/
def tankTellsUptoCard : Claim7 := { stood := { row := tankTellsUptoRow, standIns := [], harness := (true, "a8b3ff58a09fc15e37592f670f12a78b7c7cc1d81ceb101a5521940034fe0578"), looks := true }, kinds := [], alts := [], laidByText := true, laidKinds := [.handle], laidTests := true, laidLooks := .later }
def TankTellsUptoCardSaid : Prop := Claim7.holds Tryd.pinned (.plain (OpenSpec.upto tankTellsSpec)) tankTellsUptoCard

/-- THE SECOND FORM's CARD OF 'hornlaw2.TankHolds'. -/
def tankHoldsUptoCard : Claim7 := { stood := { row := tankHoldsUptoRow, standIns := [], harness := (true, "a8b3ff58a09fc15e37592f670f12a78b7c7cc1d81ceb101a5521940034fe0578"), looks := true }, kinds := [], alts := [], laidByText := true, laidKinds := [.handle], laidTests := true, laidLooks := .later }
def TankHoldsUptoCardSaid : Prop := Claim7.holds Tryd.pinned (.plain (OpenSpec.upto tankHoldsSpec)) tankHoldsUptoCard
end Rows
end Go.Proofs.YtonbdongafbcdahDoor
