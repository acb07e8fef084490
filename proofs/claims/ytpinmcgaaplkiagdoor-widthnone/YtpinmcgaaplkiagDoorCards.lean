/-
  DERIVED. GIVEN WITH THE SEED: THE CARDS: each row of YtpinmcgaaplkiagDoorRows.lean that lists a variable, with what it lists TIED to the program's text (the seventh form; the later family's looks); each row that meets fmt, with fmt's text TOLD by the authors' own Lean function (tested against real Go, not proved from fmt's source: count such statements apart). THE CARD IS WHAT COUNTS. Prove the row's statement (the work); the ties are given (YtpinmcgaaplkiagDoorTie.lean); close each card by the builder's one call (the guide's Derived/Test/ToyasCard.lean, 'card_holds'). Laid BY PROGRAM, IN A SANDBOX (cutbox-door.mjs). By AI agents, Wed Nov 11 2026. No macro, syntax, notation, axiom, sorry.
-/
import Derived.Test.YtpinmcgaaplkiagDoorRows
import GoSem.ClaimSeven
namespace Go.Proofs.YtpinmcgaaplkiagDoor
namespace Rows

/-- THE TIED CARD OF 'hornlaw2.LearnTells'. -/
def learnTellsCard : Claim7 := { stood := { row := learnTellsRow, standIns := [], harness := (true, "2c3ac6ee091973054e7ab3938ed8eeebb1b30b8eeebfd3ebe59184578d7f0d39"), looks := true }, kinds := [], alts := [], laidByText := true, laidKinds := [.handle], laidTests := true, laidLooks := .later }
def LearnTellsCardSaid : Prop := Claim7.holds Tryd.pinned (.plain (OpenSpec.ofChange learnTellsSpec)) learnTellsCard

/-- THE TIED CARD OF 'hornlaw2.WidthTells'. -/
def widthTellsCard : Claim7 := { stood := { row := widthTellsRow, standIns := [], harness := (true, "2c3ac6ee091973054e7ab3938ed8eeebb1b30b8eeebfd3ebe59184578d7f0d39"), looks := true }, kinds := [], alts := [], laidByText := true, laidKinds := [.handle], laidTests := true, laidLooks := .later }
def WidthTellsCardSaid : Prop := Claim7.holds Tryd.pinned (.plain (OpenSpec.ofChange widthTellsSpec)) widthTellsCard

/-- THE TIED CARD OF 'hornlaw4.WidthNone'. -/
def widthNoneCard : Claim7 := { stood := { row := widthNoneRow, standIns := [], harness := (true, "2c3ac6ee091973054e7ab3938ed8eeebb1b30b8eeebfd3ebe59184578d7f0d39"), looks := true }, kinds := [], alts := [], laidByText := true, laidKinds := [.handle], laidTests := true, laidLooks := .later }
def WidthNoneCardSaid : Prop := Claim7.holds Tryd.pinned (.plain (OpenSpec.ofChange widthNoneSpec)) widthNoneCard

/-- THE SECOND FORM's CARD OF 'hornlaw2.LearnTells'. -/
def learnTellsUptoCard : Claim7 := { stood := { row := learnTellsUptoRow, standIns := [], harness := (true, "2c3ac6ee091973054e7ab3938ed8eeebb1b30b8eeebfd3ebe59184578d7f0d39"), looks := true }, kinds := [], alts := [], laidByText := true, laidKinds := [.handle], laidTests := true, laidLooks := .later }
def LearnTellsUptoCardSaid : Prop := Claim7.holds Tryd.pinned (.plain (OpenSpec.upto learnTellsSpec)) learnTellsUptoCard

/-- THE SECOND FORM's CARD OF 'hornlaw2.WidthTells'. -/
def widthTellsUptoCard : Claim7 := { stood := { row := widthTellsUptoRow, standIns := [], harness := (true, "2c3ac6ee091973054e7ab3938ed8eeebb1b30b8eeebfd3ebe59184578d7f0d39"), looks := true }, kinds := [], alts := [], laidByText := true, laidKinds := [.handle], laidTests := true, laidLooks := .later }
def WidthTellsUptoCardSaid : Prop := Claim7.holds Tryd.pinned (.plain (OpenSpec.upto widthTellsSpec)) widthTellsUptoCard

/-- THE SECOND FORM's CARD OF 'hornlaw4.WidthNone'. -/
def widthNoneUptoCard : Claim7 := { stood := { row := widthNoneUptoRow, standIns := [], harness := (true, "2c3ac6ee091973054e7ab3938ed8eeebb1b30b8eeebfd3ebe59184578d7f0d39"), looks := true }, kinds := [], alts := [], laidByText := true, laidKinds := [.handle], laidTests := true, laidLooks := .later }
def WidthNoneUptoCardSaid : Prop := Claim7.holds Tryd.pinned (.plain (OpenSpec.upto widthNoneSpec)) widthNoneUptoCard
end Rows
end Go.Proofs.YtpinmcgaaplkiagDoor
