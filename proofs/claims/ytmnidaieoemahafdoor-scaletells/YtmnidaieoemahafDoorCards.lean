/-
  DERIVED. GIVEN WITH THE SEED: THE CARDS: each row of YtmnidaieoemahafDoorRows.lean that lists a variable, with what it lists TIED to the program's text (the seventh form; the later family's looks); each row that meets fmt, with fmt's text TOLD by the authors' own Lean function (tested against real Go, not proved from fmt's source: count such statements apart). THE CARD IS WHAT COUNTS. Prove the row's statement (the work); the ties are given (YtmnidaieoemahafDoorTie.lean); close each card by the builder's one call (the guide's Derived/Test/ToyasCard.lean, 'card_holds'). Laid BY PROGRAM, IN A SANDBOX (cutbox-door.mjs). By AI agents, Wed Nov 11 2026. No macro, syntax, notation, axiom, sorry.
-/
import Derived.Test.YtmnidaieoemahafDoorRows
import GoSem.ClaimSeven
namespace Go.Proofs.YtmnidaieoemahafDoor
namespace Rows

/-- THE TIED CARD OF 'hornlaw1.ScaleTells'. -/
def scaleTellsCard : Claim7 := { stood := { row := scaleTellsRow, standIns := [], harness := (true, "195d2135cdb7f87f31138589e6749a1e37c1ef4ba7c03da8dc17fee9fef885f4"), looks := true }, kinds := [], alts := [], laidByText := true, laidKinds := [.handle], laidTests := true, laidLooks := .later }
def ScaleTellsCardSaid : Prop := Claim7.holds Tryd.pinned (.plain (OpenSpec.ofChange scaleTellsSpec)) scaleTellsCard

/-- THE TIED CARD OF 'hornlaw4.ScaleAlike'. -/
def scaleAlikeCard : Claim7 := { stood := { row := scaleAlikeRow, standIns := [], harness := (true, "195d2135cdb7f87f31138589e6749a1e37c1ef4ba7c03da8dc17fee9fef885f4"), looks := true }, kinds := [], alts := [], laidByText := true, laidKinds := [.handle], laidTests := true, laidLooks := .later }
def ScaleAlikeCardSaid : Prop := Claim7.holds Tryd.pinned (.plain (OpenSpec.ofChange scaleAlikeSpec)) scaleAlikeCard

/-- THE SECOND FORM's CARD OF 'hornlaw1.ScaleTells'. -/
def scaleTellsUptoCard : Claim7 := { stood := { row := scaleTellsUptoRow, standIns := [], harness := (true, "195d2135cdb7f87f31138589e6749a1e37c1ef4ba7c03da8dc17fee9fef885f4"), looks := true }, kinds := [], alts := [], laidByText := true, laidKinds := [.handle], laidTests := true, laidLooks := .later }
def ScaleTellsUptoCardSaid : Prop := Claim7.holds Tryd.pinned (.plain (OpenSpec.upto scaleTellsSpec)) scaleTellsUptoCard

/-- THE SECOND FORM's CARD OF 'hornlaw4.ScaleAlike'. -/
def scaleAlikeUptoCard : Claim7 := { stood := { row := scaleAlikeUptoRow, standIns := [], harness := (true, "195d2135cdb7f87f31138589e6749a1e37c1ef4ba7c03da8dc17fee9fef885f4"), looks := true }, kinds := [], alts := [], laidByText := true, laidKinds := [.handle], laidTests := true, laidLooks := .later }
def ScaleAlikeUptoCardSaid : Prop := Claim7.holds Tryd.pinned (.plain (OpenSpec.upto scaleAlikeSpec)) scaleAlikeUptoCard
end Rows
end Go.Proofs.YtmnidaieoemahafDoor
