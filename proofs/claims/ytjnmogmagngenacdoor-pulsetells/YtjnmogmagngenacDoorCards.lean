/-
  DERIVED. GIVEN WITH THE SEED: THE CARDS: each row of YtjnmogmagngenacDoorRows.lean that lists a variable, with what it lists TIED to the program's text (the seventh form; the later family's looks); each row that meets fmt, with fmt's text TOLD by the authors' own Lean function (tested against real Go, not proved from fmt's source: count such statements apart). THE CARD IS WHAT COUNTS. Prove the row's statement (the work); the ties are given (YtjnmogmagngenacDoorTie.lean); close each card by the builder's one call (the guide's Derived/Test/ToyasCard.lean, 'card_holds'). Laid BY PROGRAM, IN A SANDBOX (cutbox-door.mjs). By AI agents, Wed Nov 11 2026. No macro, syntax, notation, axiom, sorry.
-/
import Derived.Test.YtjnmogmagngenacDoorRows
import GoSem.ClaimSeven
namespace Go.Proofs.YtjnmogmagngenacDoor
namespace Rows

/-- THE TIED CARD OF 'hornlaw4.LapFlat'. -/
def lapFlatCard : Claim7 := { stood := { row := lapFlatRow, standIns := [], harness := (true, "9201239432726d2de6e33cc69fab729baa8f5a307bb73ff4eb45dfa961de77a7"), looks := true }, kinds := [], alts := [], laidByText := true, laidKinds := [.handle], laidTests := true, laidLooks := .later }
def LapFlatCardSaid : Prop := Claim7.holds Tryd.pinned (.plain (OpenSpec.ofChange lapFlatSpec)) lapFlatCard

/-- THE TIED CARD OF 'hornlaw1.CountTells'. -/
def countTellsCard : Claim7 := { stood := { row := countTellsRow, standIns := [], harness := (true, "9201239432726d2de6e33cc69fab729baa8f5a307bb73ff4eb45dfa961de77a7"), looks := true }, kinds := [], alts := [], laidByText := true, laidKinds := [.handle], laidTests := true, laidLooks := .later }
def CountTellsCardSaid : Prop := Claim7.holds Tryd.pinned (.plain (OpenSpec.ofChange countTellsSpec)) countTellsCard

/-- THE TIED CARD OF 'hornlaw1.PulseTells'. -/
def pulseTellsCard : Claim7 := { stood := { row := pulseTellsRow, standIns := [], harness := (true, "9201239432726d2de6e33cc69fab729baa8f5a307bb73ff4eb45dfa961de77a7"), looks := true }, kinds := [], alts := [], laidByText := true, laidKinds := [.handle], laidTests := true, laidLooks := .later }
def PulseTellsCardSaid : Prop := Claim7.holds Tryd.pinned (.plain (OpenSpec.ofChange pulseTellsSpec)) pulseTellsCard

/-- THE SECOND FORM's CARD OF 'hornlaw4.LapFlat'. -/
def lapFlatUptoCard : Claim7 := { stood := { row := lapFlatUptoRow, standIns := [], harness := (true, "9201239432726d2de6e33cc69fab729baa8f5a307bb73ff4eb45dfa961de77a7"), looks := true }, kinds := [], alts := [], laidByText := true, laidKinds := [.handle], laidTests := true, laidLooks := .later }
def LapFlatUptoCardSaid : Prop := Claim7.holds Tryd.pinned (.plain (OpenSpec.upto lapFlatSpec)) lapFlatUptoCard

/-- THE SECOND FORM's CARD OF 'hornlaw1.CountTells'. -/
def countTellsUptoCard : Claim7 := { stood := { row := countTellsUptoRow, standIns := [], harness := (true, "9201239432726d2de6e33cc69fab729baa8f5a307bb73ff4eb45dfa961de77a7"), looks := true }, kinds := [], alts := [], laidByText := true, laidKinds := [.handle], laidTests := true, laidLooks := .later }
def CountTellsUptoCardSaid : Prop := Claim7.holds Tryd.pinned (.plain (OpenSpec.upto countTellsSpec)) countTellsUptoCard

/-- THE SECOND FORM's CARD OF 'hornlaw1.PulseTells'. -/
def pulseTellsUptoCard : Claim7 := { stood := { row := pulseTellsUptoRow, standIns := [], harness := (true, "9201239432726d2de6e33cc69fab729baa8f5a307bb73ff4eb45dfa961de77a7"), looks := true }, kinds := [], alts := [], laidByText := true, laidKinds := [.handle], laidTests := true, laidLooks := .later }
def PulseTellsUptoCardSaid : Prop := Claim7.holds Tryd.pinned (.plain (OpenSpec.upto pulseTellsSpec)) pulseTellsUptoCard
end Rows
end Go.Proofs.YtjnmogmagngenacDoor
