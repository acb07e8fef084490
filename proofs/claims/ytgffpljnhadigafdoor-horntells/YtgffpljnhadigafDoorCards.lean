/-
  DERIVED. GIVEN WITH THE SEED: THE CARDS: each row of YtgffpljnhadigafDoorRows.lean that lists a variable, with what it lists TIED to the program's text (the seventh form; the later family's looks); each row that meets fmt, with fmt's text TOLD by the authors' own Lean function (tested against real Go, not proved from fmt's source: count such statements apart). THE CARD IS WHAT COUNTS. Prove the row's statement (the work); the ties are given (YtgffpljnhadigafDoorTie.lean); close each card by the builder's one call (the guide's Derived/Test/ToyasCard.lean, 'card_holds'). Laid BY PROGRAM, IN A SANDBOX (cutbox-door.mjs). By AI agents, Wed Nov 11 2026. No macro, syntax, notation, axiom, sorry.
-/
import Derived.Test.YtgffpljnhadigafDoorRows
import GoSem.ClaimSeven
namespace Go.Proofs.YtgffpljnhadigafDoor
namespace Rows

/-- THE TIED CARD OF 'hornlaw1.ScaleTells'. -/
def scaleTellsCard : Claim7 := { stood := { row := scaleTellsRow, standIns := [], harness := (true, "2fb2e28d8df32dc7629bf1d4df03efed351108af204951cb591bc98bf7741f2b"), looks := true }, kinds := [], alts := [], laidByText := true, laidKinds := [.handle], laidTests := true, laidLooks := .later }
def ScaleTellsCardSaid : Prop := Claim7.holds Tryd.pinned (.plain (OpenSpec.ofChange scaleTellsSpec)) scaleTellsCard

/-- THE TIED CARD OF 'hornlaw4.ScaleAlike'. -/
def scaleAlikeCard : Claim7 := { stood := { row := scaleAlikeRow, standIns := [], harness := (true, "2fb2e28d8df32dc7629bf1d4df03efed351108af204951cb591bc98bf7741f2b"), looks := true }, kinds := [], alts := [], laidByText := true, laidKinds := [.handle], laidTests := true, laidLooks := .later }
def ScaleAlikeCardSaid : Prop := Claim7.holds Tryd.pinned (.plain (OpenSpec.ofChange scaleAlikeSpec)) scaleAlikeCard

/-- THE TIED CARD OF 'hornlaw2.HornTells'. -/
def hornTellsCard : Claim7 := { stood := { row := hornTellsRow, standIns := [], harness := (true, "2fb2e28d8df32dc7629bf1d4df03efed351108af204951cb591bc98bf7741f2b"), looks := true }, kinds := [], alts := [], laidByText := true, laidKinds := [.handle], laidTests := true, laidLooks := .later }
def HornTellsCardSaid : Prop := Claim7.holds Tryd.pinned (.plain (OpenSpec.ofChange hornTellsSpec)) hornTellsCard

/-- THE TIED CARD OF 'hornlaw2.HornBack'. -/
def hornBackCard : Claim7 := { stood := { row := hornBackRow, standIns := [], harness := (true, "2fb2e28d8df32dc7629bf1d4df03efed351108af204951cb591bc98bf7741f2b"), looks := true }, kinds := [], alts := [], laidByText := true, laidKinds := [.handle], laidTests := true, laidLooks := .later }
def HornBackCardSaid : Prop := Claim7.holds Tryd.pinned (.plain (OpenSpec.ofChange hornBackSpec)) hornBackCard

/-- THE TIED CARD OF 'hornlaw4.HornNone'. -/
def hornNoneCard : Claim7 := { stood := { row := hornNoneRow, standIns := [], harness := (true, "2fb2e28d8df32dc7629bf1d4df03efed351108af204951cb591bc98bf7741f2b"), looks := true }, kinds := [], alts := [], laidByText := true, laidKinds := [.handle], laidTests := true, laidLooks := .later }
def HornNoneCardSaid : Prop := Claim7.holds Tryd.pinned (.plain (OpenSpec.ofChange hornNoneSpec)) hornNoneCard

/-- THE SECOND FORM's CARD OF 'hornlaw1.ScaleTells'. -/
def scaleTellsUptoCard : Claim7 := { stood := { row := scaleTellsUptoRow, standIns := [], harness := (true, "2fb2e28d8df32dc7629bf1d4df03efed351108af204951cb591bc98bf7741f2b"), looks := true }, kinds := [], alts := [], laidByText := true, laidKinds := [.handle], laidTests := true, laidLooks := .later }
def ScaleTellsUptoCardSaid : Prop := Claim7.holds Tryd.pinned (.plain (OpenSpec.upto scaleTellsSpec)) scaleTellsUptoCard

/-- THE SECOND FORM's CARD OF 'hornlaw4.ScaleAlike'. -/
def scaleAlikeUptoCard : Claim7 := { stood := { row := scaleAlikeUptoRow, standIns := [], harness := (true, "2fb2e28d8df32dc7629bf1d4df03efed351108af204951cb591bc98bf7741f2b"), looks := true }, kinds := [], alts := [], laidByText := true, laidKinds := [.handle], laidTests := true, laidLooks := .later }
def ScaleAlikeUptoCardSaid : Prop := Claim7.holds Tryd.pinned (.plain (OpenSpec.upto scaleAlikeSpec)) scaleAlikeUptoCard

/-- THE SECOND FORM's CARD OF 'hornlaw2.HornTells'. -/
def hornTellsUptoCard : Claim7 := { stood := { row := hornTellsUptoRow, standIns := [], harness := (true, "2fb2e28d8df32dc7629bf1d4df03efed351108af204951cb591bc98bf7741f2b"), looks := true }, kinds := [], alts := [], laidByText := true, laidKinds := [.handle], laidTests := true, laidLooks := .later }
def HornTellsUptoCardSaid : Prop := Claim7.holds Tryd.pinned (.plain (OpenSpec.upto hornTellsSpec)) hornTellsUptoCard

/-- THE SECOND FORM's CARD OF 'hornlaw2.HornBack'. -/
def hornBackUptoCard : Claim7 := { stood := { row := hornBackUptoRow, standIns := [], harness := (true, "2fb2e28d8df32dc7629bf1d4df03efed351108af204951cb591bc98bf7741f2b"), looks := true }, kinds := [], alts := [], laidByText := true, laidKinds := [.handle], laidTests := true, laidLooks := .later }
def HornBackUptoCardSaid : Prop := Claim7.holds Tryd.pinned (.plain (OpenSpec.upto hornBackSpec)) hornBackUptoCard

/-- THE SECOND FORM's CARD OF 'hornlaw4.HornNone'. -/
def hornNoneUptoCard : Claim7 := { stood := { row := hornNoneUptoRow, standIns := [], harness := (true, "2fb2e28d8df32dc7629bf1d4df03efed351108af204951cb591bc98bf7741f2b"), looks := true }, kinds := [], alts := [], laidByText := true, laidKinds := [.handle], laidTests := true, laidLooks := .later }
def HornNoneUptoCardSaid : Prop := Claim7.holds Tryd.pinned (.plain (OpenSpec.upto hornNoneSpec)) hornNoneUptoCard
end Rows
end Go.Proofs.YtgffpljnhadigafDoor
