/-
  DERIVED. GIVEN WITH THE SEED: THE CARDS: each row of YthkibjhhlcfceaiDoorRows.lean that lists a variable, with what it lists TIED to the program's text (the seventh form; the later family's looks); each row that meets fmt, with fmt's text TOLD by the authors' own Lean function (tested against real Go, not proved from fmt's source: count such statements apart). THE CARD IS WHAT COUNTS. Prove the row's statement (the work); the ties are given (YthkibjhhlcfceaiDoorTie.lean); close each card by the builder's one call (the guide's Derived/Test/ToyasCard.lean, 'card_holds'). Laid BY PROGRAM, IN A SANDBOX (cutbox-door.mjs). By AI agents, Wed Nov 11 2026. No macro, syntax, notation, axiom, sorry.
-/
import Derived.Test.YthkibjhhlcfceaiDoorRows
import GoSem.ClaimSeven
namespace Go.Proofs.YthkibjhhlcfceaiDoor
namespace Rows

/-- THE TIED CARD OF 'hornlaw2.FrameRight'. -/
def frameRightCard : Claim7 := { stood := { row := frameRightRow, standIns := [], harness := (true, "944ee5ec45552eb6ab344c0a383cb7634fbd1d4d41ba0b1809687a52f73c8279"), looks := true }, kinds := [], alts := [], laidByText := true, laidKinds := [.handle], laidTests := true, laidLooks := .later }
def FrameRightCardSaid : Prop := Claim7.holds Tryd.pinned (.plain (OpenSpec.ofChange frameRightSpec)) frameRightCard

/-- THE TIED CARD OF 'hornlaw4.FrameSilent'. -/
def frameSilentCard : Claim7 := { stood := { row := frameSilentRow, standIns := [], harness := (true, "944ee5ec45552eb6ab344c0a383cb7634fbd1d4d41ba0b1809687a52f73c8279"), looks := true }, kinds := [], alts := [], laidByText := true, laidKinds := [.handle], laidTests := true, laidLooks := .later }
def FrameSilentCardSaid : Prop := Claim7.holds Tryd.pinned (.plain (OpenSpec.ofChange frameSilentSpec)) frameSilentCard

/-- THE SECOND FORM's CARD OF 'hornlaw2.FrameRight'. -/
def frameRightUptoCard : Claim7 := { stood := { row := frameRightUptoRow, standIns := [], harness := (true, "944ee5ec45552eb6ab344c0a383cb7634fbd1d4d41ba0b1809687a52f73c8279"), looks := true }, kinds := [], alts := [], laidByText := true, laidKinds := [.handle], laidTests := true, laidLooks := .later }
def FrameRightUptoCardSaid : Prop := Claim7.holds Tryd.pinned (.plain (OpenSpec.upto frameRightSpec)) frameRightUptoCard

/-- THE SECOND FORM's CARD OF 'hornlaw4.FrameSilent'. -/
def frameSilentUptoCard : Claim7 := { stood := { row := frameSilentUptoRow, standIns := [], harness := (true, "944ee5ec45552eb6ab344c0a383cb7634fbd1d4d41ba0b1809687a52f73c8279"), looks := true }, kinds := [], alts := [], laidByText := true, laidKinds := [.handle], laidTests := true, laidLooks := .later }
def FrameSilentUptoCardSaid : Prop := Claim7.holds Tryd.pinned (.plain (OpenSpec.upto frameSilentSpec)) frameSilentUptoCard
end Rows
end Go.Proofs.YthkibjhhlcfceaiDoor
