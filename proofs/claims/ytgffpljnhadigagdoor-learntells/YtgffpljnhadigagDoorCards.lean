/-
  DERIVED. GIVEN WITH THE SEED: THE CARDS: each row of YtgffpljnhadigagDoorRows.lean that lists a variable, with what it lists TIED to the program's text (the seventh form; the later family's looks); each row that meets fmt, with fmt's text TOLD by the authors' own Lean function (tested against real Go, not proved from fmt's source: count such statements apart). THE CARD IS WHAT COUNTS. Prove the row's statement (the work); the ties are given (YtgffpljnhadigagDoorTie.lean); close each card by the builder's one call (the guide's Derived/Test/ToyasCard.lean, 'card_holds'). Laid BY PROGRAM, IN A SANDBOX (cutbox-door.mjs). By AI agents, Wed Nov 11 2026. No macro, syntax, notation, axiom, sorry.
-/
import Derived.Test.YtgffpljnhadigagDoorRows
import GoSem.ClaimSeven
namespace Go.Proofs.YtgffpljnhadigagDoor
namespace Rows

/-- THE TIED CARD OF 'hornlaw2.LearnTells'. -/
def learnTellsCard : Claim7 := { stood := { row := learnTellsRow, standIns := [], harness := (true, "83abbde046ed2ae0cc944d5fcf92d6de1fcf8dfdf64c03636aafc4bac81ac29b"), looks := true }, kinds := [], alts := [], laidByText := true, laidKinds := [.handle], laidTests := true, laidLooks := .later }
def LearnTellsCardSaid : Prop := Claim7.holds Tryd.pinned (.plain (OpenSpec.ofChange learnTellsSpec)) learnTellsCard

/-- THE SECOND FORM's CARD OF 'hornlaw2.LearnTells'. -/
def learnTellsUptoCard : Claim7 := { stood := { row := learnTellsUptoRow, standIns := [], harness := (true, "83abbde046ed2ae0cc944d5fcf92d6de1fcf8dfdf64c03636aafc4bac81ac29b"), looks := true }, kinds := [], alts := [], laidByText := true, laidKinds := [.handle], laidTests := true, laidLooks := .later }
def LearnTellsUptoCardSaid : Prop := Claim7.holds Tryd.pinned (.plain (OpenSpec.upto learnTellsSpec)) learnTellsUptoCard
end Rows
end Go.Proofs.YtgffpljnhadigagDoor
